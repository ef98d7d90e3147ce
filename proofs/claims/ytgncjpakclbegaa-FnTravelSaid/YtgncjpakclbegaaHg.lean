/-
  The reference model of traverses: the points on the way, the end, gaps and lengths.
-/
import Derived.Test.YtgncjpakclbegaaHf
set_option linter.unusedSimpArgs false
set_option linter.unusedVariables false
namespace Go.Proofs.Ytgncjpakclbegaa
open Go.RowKit Poly
set_option linter.unusedVariables false

def PtsOut (b : Bool) (w w' : World) (g m cap n : Nat) (M : List P2) : Prop := (b = false → m = 0) ∧ (b = true → m = n + 1 ∧ w.heap.size ≤ g ∧ Own w' g 31 2 (n + 1) cap (Poly.fl M)) ∧ Below w.heap.size w w'
def CellT (W : World) (R : Nat) (x y : Int) : Prop := W.cell? ⟨R, 0, none⟩ = some (.int .i64 x) ∧ W.cell? ⟨R, 1, none⟩ = some (.int .i64 y)
theorem ways_cellT {x y : Int} {V : World} {G : Prop} {P : Nat → World → Prop} (h1 : (∀ Y W, CellT W Y x y → Below V.heap.size V W → P Y W) → G) (h2 : ∀ Y W, CellT W Y x y → Below V.heap.size V W → P Y W) : G := h1 h2
theorem gen_exitH {Q : Exit → Act → World → Prop} {x : Exit} {a : Act} {W : World} (p : World → Prop) (h : p W) (k : ∀ W', p W' → Q x a W') : Q x a W := k W h
theorem own_one2 (w : World) (T : TypeId) (x y : Int) : Own (w.alloc (.cells #[.int .i64 x, .int .i64 y] T)) w.heap.size T 2 1 1 [x, y] :=
  .of (Deep.blk_alloc_new _ _) (Nat.le_refl _) (by decide) (by simp) (by simp [ivs]) (by simp)
theorem two_cellsS (V : World) (n : Nat) (x y : Int) (T : TypeId) (h : V.heap.size = n) : ∀ (j : Nat) (z : Int), [x, y][j]? = some z → (V.alloc (.cells #[.int .i64 x, .int .i64 y] T)).cell? ((⟨n, 0, none⟩ : Addr).add j) = some (.int .i64 z) := by
  subst h; intro j z hj
  match j, hj with
  | 0, hj => injection hj with hj; subst hj; simp [go_sem, Addr.add]
  | 1, hj => injection hj with hj; subst hj; simp [go_sem, Addr.add]
section
variable {p : Option Addr} {n c : Nat} {L : List P2} {w : World} {x y : Int}
theorem sTravelPoints_not (h : Ints w p (Poly.fl L)) (hn : L.length = n) (hl : n ≤ 4000000000000000000) (hb : tvV L = false) :
    Calls Try.prog 38 #[.agg #[.int .i64 x, .int .i64 y], .slice p n c] w fun e w' => ∃ g, e = .returned (.tuple #[.slice (some ⟨g, 0, none⟩) 0 0, .bool false]) ∧ Below w.heap.size w w' := by
  have H := Lib.hid h
  have c1 := fun w h => Lib.hid (sTravelValid_is (p := p) (n := n) (c := c) (L := L) (w := w) h hn hl hb)
  clear h hn hb
  go_enter Try.func38, Try.ntmps38
  go_wp2_with ((go_at_call 49; (with_reducible refine ((c1 _ (H.out.alloc _)).out).mono ?_); rintro e w1 ⟨rfl, hb_w1⟩; have hs_w1 := hb_w1.size; (try simp at hs_w1)))
  exact bodyPost_ret (v := .tuple #[.slice (some ⟨w1.heap.size, 0, none⟩) 0 0, .bool false]) (by simp [results, Try.results38, go_sem]) rfl ⟨w1.heap.size, rfl, (by repeat (first | assumption | exact Below.refl _ _ | (refine below_chain ?_ (by assumption) (by first | omega | (simp <;> omega) | simp)) | (refine Below.alloc ?_ (by first | omega | (simp <;> omega) | simp) _) | (apply below_drewN) | (apply below_drew) | (refine Below.setCell ?_ (by first | omega | (simp <;> omega) | simp) _)))⟩
theorem sTravelPoints_from (h : Ints w p (Poly.fl L)) (hn : L.length = n) (hl : n ≤ 4000000000000000000) (hb : tvV L = true) (hp : pvP (x, y) = false) :
    Calls Try.prog 38 #[.agg #[.int .i64 x, .int .i64 y], .slice p n c] w fun e w' => ∃ g, e = .returned (.tuple #[.slice (some ⟨g, 0, none⟩) 0 0, .bool false]) ∧ Below w.heap.size w w' := by
  have H := Lib.hid h
  have c1 := fun w h => Lib.hid (sTravelValid_is (p := p) (n := n) (c := c) (L := L) (w := w) h hn hl hb)
  have c2 := fun w => Lib.hid (spv_is x y false w hp)
  clear h hn hb hp
  go_enter Try.func38, Try.ntmps38
  go_wp2_with (first | ((go_at_call 49; (with_reducible refine ((c1 _ (H.out.alloc _)).out).mono ?_); rintro e w1 ⟨rfl, hb_w1⟩; have hs_w1 := hb_w1.size; (try simp at hs_w1)); obtain ⟨hc_w1, hf_w1⟩ := bcell hb_w1; have lw : w.heap.size < w1.heap.size := (by omega); have k0 : w1.cell? ⟨w.heap.size, 0, none⟩ = some (.int .i64 x) := (by rw [hc_w1 _ _ (by simp)]; simp [go_sem]); have k1 : w1.cell? ⟨w.heap.size, 1, none⟩ = some (.int .i64 y) := (by rw [hc_w1 _ _ (by simp)]; simp [go_sem])) | (go_at_call 87; (with_reducible refine ((c2 _).out).mono ?_); rintro e w2 ⟨rfl, hb_w2⟩; have hs_w2 := hb_w2.size; (try simp at hs_w2)))
  exact bodyPost_ret (v := .tuple #[.slice (some ⟨w2.heap.size, 0, none⟩) 0 0, .bool false]) (by simp [results, Try.results38, go_sem]) rfl ⟨w2.heap.size, rfl, (by repeat (first | assumption | exact Below.refl _ _ | (refine below_chain ?_ (by assumption) (by first | omega | (simp <;> omega) | simp)) | (refine Below.alloc ?_ (by first | omega | (simp <;> omega) | simp) _) | (apply below_drewN) | (apply below_drew) | (refine Below.setCell ?_ (by first | omega | (simp <;> omega) | simp) _)))⟩
theorem wayT_tail (s : P2) (l : List P2) (q : P2) : (wayT q (s :: l)).tail = adP q s :: (wayT (adP q s) l).tail := by
  show wayT (adP q s) l = _
  cases l <;> rfl
set_option maxRecDepth 100000 in
set_option maxHeartbeats 8000000 in
theorem sTravelPoints_in (b : Bool) (h : Ints w p (Poly.fl L)) (hn : L.length = n) (hv : tvV L = true) (hp : pvP (x, y) = true) (hb : (wayT (x, y) L).all pvP = b) :
    Calls Try.prog 38 #[.agg #[.int .i64 x, .int .i64 y], .slice p n c] w fun e w' => ∃ g m cap, e = .returned (.tuple #[.slice (some ⟨g, 0, none⟩) m cap, .bool b]) ∧ PtsOut b w w' g m cap n (wayT (x, y) L) := by
  have hlen := tvV_len hv
  rw [hn] at hlen
  have H := Lib.hid (And.intro h (And.intro hn (And.intro hv hb)))
  have c1 := fun w h => Lib.hid (sTravelValid_is (p := p) (n := n) (c := c) (L := L) (w := w) h hn (by omega) hv)
  have c2 := fun w => Lib.hid (spv_is x y true w hp)
  have HP := Lib.hid hp
  clear h hn hb hp hv
  go_enter Try.func38, Try.ntmps38
  go_wp2_with (first | ((go_at_call 49; (with_reducible refine ((c1 _ (H.out.1.alloc _)).out).mono ?_); rintro e w1 ⟨rfl, hb_w1⟩; have hs_w1 := hb_w1.size; (try simp at hs_w1)); obtain ⟨hc_w1, hf_w1⟩ := bcell hb_w1; have lw : w.heap.size < w1.heap.size := (by omega); have k0 : w1.cell? ⟨w.heap.size, 0, none⟩ = some (.int .i64 x) := (by rw [hc_w1 _ _ (by simp)]; simp [go_sem]); have k1 : w1.cell? ⟨w.heap.size, 1, none⟩ = some (.int .i64 y) := (by rw [hc_w1 _ _ (by simp)]; simp [go_sem])) | ((go_at_call 87; (with_reducible refine ((c2 _).out).mono ?_); rintro e w2 ⟨rfl, hb_w2⟩; have hs_w2 := hb_w2.size; (try simp at hs_w2)); have k0 := cell_below_keep hb_w2 k0; have k1 := cell_below_keep hb_w2 k1))
  have HW := Lib.hid (own_one2 w2 31 x y)
  have hbw : Below w.heap.size w w2 := (by repeat (first | assumption | exact Below.refl _ _ | (refine below_chain ?_ (by assumption) (by first | omega | (simp <;> omega) | simp)) | (refine Below.alloc ?_ (by first | omega | (simp <;> omega) | simp) _) | (apply below_drewN) | (apply below_drew) | (refine Below.setCell ?_ (by first | omega | (simp <;> omega) | simp) _)))
  have HB := Lib.hid hbw
  have hws := hbw.size
  clear hb_w1 hb_w2 hc_w1 hf_w1 c1 c2 k0 k1 hbw
  go_loopw [6, 7] (fun l i wr => ∃ (A : List P2) (q : P2) (g cap a : Nat), a ≤ n ∧ i = .int .i64 a ∧ l = .slice (some ⟨g, 0, none⟩) (a + 1) cap ∧ A.length = a + 1 ∧ A[a]? = some q ∧ pvP q = true ∧ w.heap.size ≤ g ∧ Own wr g 31 2 (a + 1) cap (Poly.fl A) ∧ A ++ (wayT q (L.drop a)).tail = wayT (x, y) L ∧ (wayT q (L.drop a)).all pvP = b ∧ Below w.heap.size w wr) (fun _ i _ => n - (intOf i).toNat)
  case atStart => exact ⟨[(x, y)], (x, y), w2.heap.size, 1, 0, Nat.zero_le _, rfl, rfl, rfl, rfl, HP.out, hws, HW.out, by rw [List.drop_zero]; cases L <;> rfl, by rw [List.drop_zero]; exact H.out.2.2.2, HB.out.alloc hws _⟩
  case round =>
    clear HW HB hws
    obtain ⟨A, q, g, cap, a, ha, rfl, rfl, hA, hq, hqv, hg, ho, hE, hall, hb⟩ := hrel
    have hbs := hb.size
    by_cases hlt : a < n
    · have hlt' : (a : Int) < (n : Int) := by omega
      have ha0 : (0 : Int) ≤ (a : Int) := by omega
      have ha1 : (a : Int) < (a : Int) + 1 := by omega
      have haL : a < L.length := by rw [H.out.2.1]; exact hlt
      obtain ⟨B, o, rfl, hB, c0', c1'⟩ := H.out.1.pt (i := a) haL
      have c0 := (hb.cell (p := ⟨B, o + a * 2, none⟩) hB).trans c0'
      have c1 := (hb.cell (p := ⟨B, o + a * 2 + 1, none⟩) hB).trans c1'
      have d0 := ho.cells (fl_at hq).1
      have d1 := ho.cells (fl_at hq).2
      have hsv := tvV_at H.out.2.2.1 haL
      have hdr : L.drop a = cy L a :: L.drop (a + 1) := by
        rw [List.drop_eq_getElem_cons haL]; congr 1
        have := cy_lt haL
        rw [List.getElem?_eq_getElem haL] at this
        injection this
      obtain ⟨s, hs⟩ : ∃ s, cy L a = s := ⟨_, rfl⟩
      rw [hs] at c0 c1 hsv hdr
      clear hs c0' c1'
      obtain ⟨s1, s2⟩ := s
      obtain ⟨q1, q2⟩ := q
      simp only at c0 c1 d0 d1
      obtain ⟨ok, hok⟩ : ∃ ok, Pt.pv (q1 + s1) (q2 + s2) = ok := ⟨_, rfl⟩
      have cm := fun w => Lib.hid (sMove_is q1 q2 s1 s2 ok w hqv hsv hok)
      have hqp := Lib.hid hqv
      have hlg := ho.lt
      have hlB : B < wr.heap.size := by omega
      rw [hdr] at hE hall
      have HO := Lib.hid (And.intro ho (And.intro hb (And.intro hE (And.intro hall (And.intro hA (And.intro hok hsv))))))
      clear ho hb hE hall hA hok hdr hsv hqv hq hB
      obtain ⟨u, hu⟩ : ∃ u, (if ok then q1 + s1 else 0) = u := ⟨_, rfl⟩
      obtain ⟨v, hv⟩ : ∃ v, (if ok then q2 + s2 else 0) = v := ⟨_, rfl⟩
      simp only [hu, hv] at cm
      have HU := Lib.hid (And.intro hu hv)
      clear hu hv
      go_upto_region 7 with fail
      apply ways_cellT (x := u) (y := v) (V := wr)
      · intro REST
        go_region_held3 (fun W => W.cell? ⟨g, a * 2, none⟩ = some (.int .i64 q1) ∧ W.cell? ⟨g, a * 2 + 1, none⟩ = some (.int .i64 q2) ∧ W.cell? ⟨B, o + a * 2, none⟩ = some (.int .i64 s1) ∧ W.cell? ⟨B, o + a * 2 + 1, none⟩ = some (.int .i64 s2)) (((try dsimp only); (try go_split_ands); refine ⟨?_, ?_, ?_, ?_⟩ <;> (first | ((repeat (first | with_reducible assumption | (with_reducible refine cell_below_keep (by with_reducible assumption) ?_) | (with_reducible refine cell_gb_keep (by with_reducible assumption) (by omega) ?_) | (simp [go_sem]; done) | (with_reducible refine cell_alloc_keep _ ?_) | (with_reducible refine cell_drew_keep ?_) | (with_reducible refine cell_drewN_keep _ ?_) | (with_reducible refine cell_set_keep _ (by first | (simp; omega) | omega) ?_))); done) | (simp [*, go_sem]; done)))) ((go_at_call 88; (with_reducible refine ((cm _).out).mono ?_); rintro e wm ⟨rfl, hbn⟩; obtain ⟨hcn, hfn⟩ := bcell hbn; (try simp only [World.size_drew, World.cell?_drew, World.frozen?_drew, World.heap_drewN, World.cell?_drewN, World.frozen?_drewN] at hcn hfn); have hsz := hbn.size; (try simp at hsz); (try have hsl := Nat.lt_of_succ_le hsz); (try have hz0 : B < wm.heap.size := (by have := hbn.size; (try simp at this); omega)); (try have hz1 : g < wm.heap.size := (by have := hbn.size; (try simp at this); omega))))
        all_goals
          first
          | (have z0 : wm.cell? ⟨wr.heap.size, 0, none⟩ = some (.int .i64 0) := (by rw [hcn _ _ (by simp)]; simp [go_sem])
             have z1 : wm.cell? ⟨wr.heap.size, 1, none⟩ = some (.int .i64 0) := (by rw [hcn _ _ (by simp)]; simp [go_sem])
             have hYA : CellT ((wm.setCell ⟨wr.heap.size, 0, none⟩ (.int .i64 u)).setCell ⟨wr.heap.size, 1, none⟩ (.int .i64 v)) wr.heap.size u v := (by refine ⟨?_, ?_⟩ <;> simp [go_sem, z0, z1])
             have hBA : Below wr.heap.size wr ((wm.setCell ⟨wr.heap.size, 0, none⟩ (.int .i64 u)).setCell ⟨wr.heap.size, 1, none⟩ (.int .i64 v)) := ((((below_dr ((Below.refl _ wr).alloc (Nat.le_refl _) (.cells #[.int .i64 0, .int .i64 0] 31))).trans (hbn.mono (by simp))).setCell (p := ⟨wr.heap.size, 0, none⟩) (Nat.le_refl _) _).setCell (p := ⟨wr.heap.size, 1, none⟩) (Nat.le_refl _) _)
             refine gen_exitH (fun W => CellT W wr.heap.size u v ∧ Below wr.heap.size wr W) ⟨hYA, hBA⟩ (fun W hW => ?_)
             obtain ⟨hW1, hW2⟩ := hW
             obtain ⟨Y, hYe⟩ : ∃ Y, wr.heap.size = Y := ⟨_, rfl⟩
             have hW2' := Lib.hid hW2
             clear hW2
             rw [hYe] at hW1 ⊢
             exact REST Y W hW1 hW2'.out)
          | (have hYA : CellT (wm.alloc (.cells #[.int .i64 u, .int .i64 v] 31)) wm.heap.size u v := (by refine ⟨?_, ?_⟩ <;> simp [go_sem])
             have hBA : Below wr.heap.size wr (wm.alloc (.cells #[.int .i64 u, .int .i64 v] 31)) := ((below_dr (Below.refl _ wr)).trans hbn).alloc hsz _
             obtain ⟨Y, hYe⟩ : ∃ Y, wm.heap.size = Y := ⟨_, rfl⟩
             rw [hYe] at hYA ⊢
             refine gen_exitH (fun W => CellT W Y u v ∧ Below wr.heap.size wr W) ⟨hYA, hBA⟩ (fun W hW => ?_)
             exact REST Y W hW.1 hW.2)
      · intro Y W hY hBW
        obtain ⟨y0, y1⟩ := hY
        have HBW := Lib.hid (HO.out.2.1.trans (hBW.mono hbs))
        have hsW := hBW.size
        have hog := Lib.hid (HO.out.1.below hBW)
        have hYl := World.block_lt_of_cell? W _ y0
        dsimp only at hYl
        clear hBW cm c0 c1 d0 d1
        cases ok
        · go_wp2_with fail
          have hbf : b = false := by
            have := HO.out.2.2.2.1
            rw [← this]
            have hq : pvP (adP (q1, q2) (s1, s2)) = false := HO.out.2.2.2.2.2.1
            cases hL : L.drop (a + 1) <;> simp [wayT, hq]
          subst hbf
          exact bodyPost_ret (v := .tuple #[.slice (some ⟨W.heap.size, 0, none⟩) 0 0, .bool false]) (by simp [results, Try.results38, go_sem]) rfl ⟨W.heap.size, 0, 0, rfl, fun _ => rfl, fun h => (by cases h), HBW.out.alloc HBW.out.size _⟩
        · go_wp2_with (at_builtin; refine wp_append _ rfl _ _ 23 rfl 31 _ 2 16 Try.underlying23 info_point rfl (by decide) (by decide) g (a + 1) cap (Poly.fl A) rfl (hog.out.alloc _) _ 1 1 [u, v] rfl rfl (two_cellsS _ _ _ _ _ rfl) (by omega) ?_; intro g' cap' w' hown hgr hloc hsz'; have HN := Lib.hid (And.intro hown (And.intro hgr hloc)); clear hown hgr hloc hsz')
          have hu : q1 + s1 = u := by have := HU.out.1; simpa using this
          have hv : q2 + s2 = v := by have := HU.out.2; simpa using this
          have hE := HO.out.2.2.1
          have hall := HO.out.2.2.2.1
          have hqv2 : pvP (u, v) = true := by rw [← hu, ← hv]; exact HO.out.2.2.2.2.2.1
          have had : adP (q1, q2) (s1, s2) = (u, v) := by unfold adP; rw [← hu, ← hv]
          rw [wayT_tail, had] at hE
          have hall2 : (wayT (u, v) (L.drop (a + 1))).all pvP = b := by
            rw [← hall]
            show _ = (pvP (q1, q2) && (wayT (adP (q1, q2) (s1, s2)) (L.drop (a + 1))).all pvP)
            rw [had, hqp.out]; rfl
          have hm : w.heap.size ≤ g' := by
            rcases HN.out.2.2 with h | h
            · omega
            · simp at h; omega
          have hAl := HO.out.2.2.2.2.1
          refine ⟨⟨A ++ [(u, v)], (u, v), g', cap', a + 1, by omega, by go_num, rfl, by rw [List.length_append, hAl]; rfl, by rw [List.getElem?_append_right (by omega), hAl]; simp, hqv2, hm, by rw [fl_append]; exact HN.out.1, by rw [List.append_assoc]; exact hE, hall2, ?_⟩, by simp [intOf]; omega⟩
          exact (HBW.out.alloc HBW.out.size (.cells #[.int .i64 u, .int .i64 v] 31)).grown HN.out.2.1 (by simp; omega) (fun k e => by injection e with e; omega)
    · have e : a = n := by omega
      subst e
      have hbt : b = true := by
        rw [← hall, List.drop_of_length_le (by rw [H.out.2.1]; exact Nat.le_refl _)]
        simp [wayT, hqv]
      have hAE : A = wayT (x, y) L := by
        rw [List.drop_of_length_le (by rw [H.out.2.1]; exact Nat.le_refl _)] at hE
        rw [← hE]; simp [wayT]
      subst hbt hAE
      have HO := Lib.hid (And.intro ho hb)
      clear ho hb hE hall hq hqv hA
      go_wp2_with fail
      exact bodyPost_ret (v := .tuple #[.slice (some ⟨g, 0, none⟩) (a + 1) cap, .bool true]) (by simp [results, Try.results38, go_sem]) rfl ⟨g, a + 1, cap, rfl, fun h => (by cases h), fun _ => ⟨rfl, hg, HO.out.1⟩, HO.out.2⟩
theorem goT_noS (h : goT (x, y) L = false) : tvV L = false ∨ (tvV L = true ∧ (wayT (x, y) L).all pvP = false) := by
  unfold goT at h
  cases ht : tvV L with
  | false => exact .inl rfl
  | true => rw [ht] at h; simp only [Bool.true_and] at h; exact .inr ⟨rfl, h⟩
theorem sTravelPoints_no (h : Ints w p (Poly.fl L)) (hn : L.length = n) (hl : n ≤ 4000000000000000000) (hg : goT (x, y) L = false) :
    Calls Try.prog 38 #[.agg #[.int .i64 x, .int .i64 y], .slice p n c] w fun e w' => ∃ g m cap, e = .returned (.tuple #[.slice (some ⟨g, 0, none⟩) m cap, .bool false]) ∧ m = 0 ∧ Below w.heap.size w w' := by
  rcases goT_noS hg with h1 | ⟨h1, h2⟩
  · refine (sTravelPoints_not h hn hl h1).mono ?_
    rintro e w' ⟨g, rfl, hb⟩
    exact ⟨g, 0, 0, rfl, rfl, hb⟩
  · cases hp : pvP (x, y) with
    | false =>
      refine (sTravelPoints_from h hn hl h1 hp).mono ?_
      rintro e w' ⟨g, rfl, hb⟩
      exact ⟨g, 0, 0, rfl, rfl, hb⟩
    | true =>
      refine (sTravelPoints_in false h hn h1 hp h2).mono ?_
      rintro e w' ⟨g, m, cap, rfl, hb⟩
      exact ⟨g, m, cap, rfl, hb.1 rfl, hb.2.2⟩
theorem sTravelPoints_yes (h : Ints w p (Poly.fl L)) (hn : L.length = n) (hg : goT (x, y) L = true) :
    Calls Try.prog 38 #[.agg #[.int .i64 x, .int .i64 y], .slice p n c] w fun e w' => ∃ g cap, e = .returned (.tuple #[.slice (some ⟨g, 0, none⟩) (n + 1) cap, .bool true]) ∧ w.heap.size ≤ g ∧ Own w' g 31 2 (n + 1) cap (Poly.fl (wayT (x, y) L)) ∧ Below w.heap.size w w' := by
  have ht := (goT_parts hg).1
  have ha : (wayT (x, y) L).all pvP = true := by unfold goT at hg; simp only [Bool.and_eq_true] at hg; exact hg.2
  have hp : pvP (x, y) = true := (goT_parts hg).2 _ (by cases L <;> simp [wayT])
  refine (sTravelPoints_in true h hn ht hp ha).mono ?_
  rintro e w' ⟨g, m, cap, rfl, -, hb, hbb⟩
  obtain ⟨rfl, h1, h2⟩ := hb rfl
  exact ⟨g, cap, rfl, h1, h2, hbb⟩
set_option maxHeartbeats 2000000 in
theorem sTravelEnd_no (h : Ints w p (Poly.fl L)) (hn : L.length = n) (hl : n ≤ 4000000000000000000) (hg : goT (x, y) L = false) :
    Calls Try.prog 34 #[.agg #[.int .i64 x, .int .i64 y], .slice p n c] w fun e w' => e = .returned (.tuple #[.agg #[.int .i64 0, .int .i64 0], .bool false]) ∧ Below w.heap.size w w' := by
  have H := Lib.hid h
  have c1 := fun w h => Lib.hid (sTravelPoints_no (p := p) (n := n) (c := c) (L := L) (w := w) h hn hl hg)
  clear h hn hg
  go_enter Try.func34, Try.ntmps34
  go_wp2_with ((go_at_call 38; (with_reducible refine ((c1 _ ((H.out.alloc _).alloc _)).out).mono ?_); rintro e w1 ⟨g, m, cap, rfl, hm, hb_w1⟩; have hs_w1 := hb_w1.size; (try simp at hs_w1)); obtain ⟨hc_w1, hf_w1⟩ := bcell hb_w1; have hz1 : w.heap.size < w1.heap.size := (by omega); have k0 : w1.cell? ⟨w.heap.size + 1, 0, none⟩ = some (.int .i64 0) := (by rw [hc_w1 _ _ (by simp)]; simp [go_sem]); have k1 : w1.cell? ⟨w.heap.size + 1, 1, none⟩ = some (.int .i64 0) := (by rw [hc_w1 _ _ (by simp)]; simp [go_sem]); have kf : w1.frozen? ⟨w.heap.size + 1, 0, none⟩ = false := (by rw [hf_w1 _ _ (by simp)]; simp [go_sem]); have kg : w1.frozen? ⟨w.heap.size + 1, 1, none⟩ = false := (by rw [hf_w1 _ _ (by simp)]; simp [go_sem]))
  exact bodyPost_ret (v := .tuple #[.agg #[.int .i64 0, .int .i64 0], .bool false]) (by simp [results, Try.results34, go_sem, k0, k1]) rfl ⟨rfl, (by repeat (first | assumption | exact Below.refl _ _ | (refine below_chain ?_ (by assumption) (by first | omega | (simp <;> omega) | simp)) | (refine Below.alloc ?_ (by first | omega | (simp <;> omega) | simp) _) | (apply below_drewN) | (apply below_drew) | (refine Below.setCell ?_ (by first | omega | (simp <;> omega) | simp) _)))⟩
set_option maxHeartbeats 2000000 in
theorem sTravelEnd_yes {e : P2} (h : Ints w p (Poly.fl L)) (hn : L.length = n) (hg : goT (x, y) L = true) (he : endT (x, y) L = e) :
    Calls Try.prog 34 #[.agg #[.int .i64 x, .int .i64 y], .slice p n c] w fun r w' => r = .returned (.tuple #[.agg #[.int .i64 e.1, .int .i64 e.2], .bool true]) ∧ Below w.heap.size w w' := by
  have H := Lib.hid h
  have hlen := tvV_len (goT_parts hg).1
  have hl : Hid ((wayT (x, y) L)[n]? = some e) := Lib.hid (by rw [← hn, ← he]; exact wayT_last L (x, y))
  have h12 : n ≤ 12 := by omega
  have c1 := fun w h => Lib.hid (sTravelPoints_yes (p := p) (n := n) (c := c) (L := L) (w := w) h hn hg)
  have hi : ((n : Int) + 1) - 1 = (n : Int) := by omega
  have hin : (n : Int) < (n : Int) + 1 := by omega
  clear h hn hg he hlen
  go_enter Try.func34, Try.ntmps34
  go_wp2_with ((go_at_call 38; (with_reducible refine ((c1 _ ((H.out.alloc _).alloc _)).out).mono ?_); rintro e w1 ⟨g, cap, rfl, hg, ho, hb_w1⟩; have hs_w1 := hb_w1.size; (try simp at hs_w1)); obtain ⟨hc_w1, hf_w1⟩ := bcell hb_w1; have hz1 : w.heap.size < w1.heap.size := (by omega); have k0 : w1.cell? ⟨w.heap.size + 1, 0, none⟩ = some (.int .i64 0) := (by rw [hc_w1 _ _ (by simp)]; simp [go_sem]); have k1 : w1.cell? ⟨w.heap.size + 1, 1, none⟩ = some (.int .i64 0) := (by rw [hc_w1 _ _ (by simp)]; simp [go_sem]); have kf : w1.frozen? ⟨w.heap.size + 1, 0, none⟩ = false := (by rw [hf_w1 _ _ (by simp)]; simp [go_sem]); have kg : w1.frozen? ⟨w.heap.size + 1, 1, none⟩ = false := (by rw [hf_w1 _ _ (by simp)]; simp [go_sem]); have x0 := ho.cells (fl_at hl.out).1; have x1 := ho.cells (fl_at hl.out).2; clear ho)
  exact bodyPost_ret (v := .tuple #[.agg #[.int .i64 e.1, .int .i64 e.2], .bool true]) (by simp [results, Try.results34, go_sem, k0, k1]) rfl ⟨rfl, (by repeat (first | assumption | exact Below.refl _ _ | (refine below_chain ?_ (by assumption) (by first | omega | (simp <;> omega) | simp)) | (refine Below.alloc ?_ (by first | omega | (simp <;> omega) | simp) _) | (apply below_drewN) | (apply below_drew) | (refine Below.setCell ?_ (by first | omega | (simp <;> omega) | simp) _)))⟩
set_option maxHeartbeats 2000000 in
theorem sTravelLength_no (h : Ints w p (Poly.fl L)) (hn : L.length = n) (hl : n ≤ 4000000000000000000) (hb : tvV L = false) :
    Calls Try.prog 43 #[.slice p n c] w fun e w' => e = .returned (.int .i64 (-1)) ∧ Below w.heap.size w w' := by
  have H := Lib.hid h
  have c1 := fun w h => Lib.hid (sTravelValid_is (p := p) (n := n) (c := c) (L := L) (w := w) h hn hl hb)
  clear h hn hb
  go_enter Try.func43, Try.ntmps43
  go_wp2_with ((go_at_call 49; (with_reducible refine ((c1 _ H.out).out).mono ?_); rintro e w1 ⟨rfl, hb_w1⟩; have hs_w1 := hb_w1.size; (try simp at hs_w1)))
  go_ret
  exact ⟨rfl, hb_w1⟩
set_option maxHeartbeats 2000000 in
theorem sTravelLength_yes {v : Int} (h : Ints w p (Poly.fl L)) (hn : L.length = n) (hb : tvV L = true) (hv : tot (lensT L) = v) :
    Calls Try.prog 43 #[.slice p n c] w fun e w' => e = .returned (.int .i64 v) ∧ Below w.heap.size w w' := by
  have hlen := tvV_len hb
  rw [hn] at hlen
  have H := Lib.hid h
  have c1 := fun w h => Lib.hid (sTravelValid_is (p := p) (n := n) (c := c) (L := L) (w := w) h hn (by omega) hb)
  have c2 := fun w h => Lib.hid (sLens (p := p) (n := n) (c := c) (L := L) (w := w) h hn hb)
  have c3 := fun p c w h => Lib.hid (sSum n c p (lensT L) w h (by rw [lensT_len, hn]) (by omega) (fun z hz => by have := lensT_bd hb z hz; omega))
  simp only [hv] at c3
  clear h hn hb hv
  go_enter Try.func43, Try.ntmps43
  go_wp2_with (first
    | ((go_at_call 49; (with_reducible refine ((c1 _ H.out).out).mono ?_); rintro e w1 ⟨rfl, hb_w1⟩; have hs_w1 := hb_w1.size; (try simp at hs_w1)))
    | ((go_at_call 94; (with_reducible refine ((c2 _ (H.out.below hb_w1)).out).mono ?_); rintro e w2 ⟨g, cg, rfl, hg, ho, hb_w2⟩; have hs_w2 := hb_w2.size; (try simp at hs_w2)))
    | (go_at_call 93; (with_reducible refine ((c3 _ _ _ ho.ints).out).mono ?_); rintro e w' ⟨rfl, rfl⟩))
  go_ret
  exact ⟨rfl, (by repeat (first | assumption | exact Below.refl _ _ | (refine below_chain ?_ (by assumption) (by first | omega | (simp <;> omega) | simp)) | (refine Below.alloc ?_ (by first | omega | (simp <;> omega) | simp) _) | (apply below_drewN) | (apply below_drew) | (refine Below.setCell ?_ (by first | omega | (simp <;> omega) | simp) _)))⟩
set_option maxHeartbeats 2000000 in
theorem sTravelGap_no (h : Ints w p (Poly.fl L)) (hn : L.length = n) (hl : n ≤ 4000000000000000000) (hb : tvV L = false) :
    Calls Try.prog 57 #[.slice p n c] w fun e w' => e = .returned (.tuple #[.agg #[.int .i64 0, .int .i64 0], .bool false]) ∧ Below w.heap.size w w' := by
  have H := Lib.hid h
  have c1 := fun w h => Lib.hid (sTravelValid_is (p := p) (n := n) (c := c) (L := L) (w := w) h hn hl hb)
  clear h hn hb
  go_enter Try.func57, Try.ntmps57
  go_wp2_with ((go_at_call 49; (with_reducible refine ((c1 _ (H.out.alloc _)).out).mono ?_); rintro e w1 ⟨rfl, hb_w1⟩; have hs_w1 := hb_w1.size; (try simp at hs_w1)); obtain ⟨hc_w1, hf_w1⟩ := bcell hb_w1; have hz1 : w.heap.size < w1.heap.size := (by omega); have k0 : w1.cell? ⟨w.heap.size, 0, none⟩ = some (.int .i64 0) := (by rw [hc_w1 _ _ (by simp)]; simp [go_sem]); have k1 : w1.cell? ⟨w.heap.size, 1, none⟩ = some (.int .i64 0) := (by rw [hc_w1 _ _ (by simp)]; simp [go_sem]); have kf : w1.frozen? ⟨w.heap.size, 0, none⟩ = false := (by rw [hf_w1 _ _ (by simp)]; simp [go_sem]); have kg : w1.frozen? ⟨w.heap.size, 1, none⟩ = false := (by rw [hf_w1 _ _ (by simp)]; simp [go_sem]))
  exact bodyPost_ret (v := .tuple #[.agg #[.int .i64 0, .int .i64 0], .bool false]) (by simp [results, Try.results57, go_sem, k0, k1]) rfl ⟨rfl, (by repeat (first | assumption | exact Below.refl _ _ | (refine below_chain ?_ (by assumption) (by first | omega | (simp <;> omega) | simp)) | (refine Below.alloc ?_ (by first | omega | (simp <;> omega) | simp) _) | (apply below_drewN) | (apply below_drew) | (refine Below.setCell ?_ (by first | omega | (simp <;> omega) | simp) _)))⟩
set_option maxHeartbeats 4000000 in
theorem sTravelGap_yes {v : P2} (h : Ints w p (Poly.fl L)) (hn : L.length = n) (hb : tvV L = true) (hv : gapT L = v) :
    Calls Try.prog 57 #[.slice p n c] w fun e w' => e = .returned (.tuple #[.agg #[.int .i64 v.1, .int .i64 v.2], .bool true]) ∧ Below w.heap.size w w' := by
  have hlen := tvV_len hb
  rw [hn] at hlen
  have H := Lib.hid h
  have c1 := fun w h => Lib.hid (sTravelValid_is (p := p) (n := n) (c := c) (L := L) (w := w) h hn (by omega) hb)
  have c2 := fun w h => Lib.hid (sGap (p := p) (n := n) (c := c) (L := L) (w := w) h hn hb hv)
  clear h hn hb hv
  go_enter Try.func57, Try.ntmps57
  go_wp2_with (first
    | ((go_at_call 49; (with_reducible refine ((c1 _ (H.out.alloc _)).out).mono ?_); rintro e w1 ⟨rfl, hb_w1⟩; have hs_w1 := hb_w1.size; (try simp at hs_w1)); obtain ⟨hc_w1, hf_w1⟩ := bcell hb_w1)
    | ((go_at_call 96; (with_reducible refine ((c2 _ ((H.out.alloc _).below hb_w1)).out).mono ?_); rintro e w3 ⟨rfl, hb_w3⟩; have hs_w3 := hb_w3.size; (try simp at hs_w3)); (have lw1 : w.heap.size < w1.heap.size := (by omega)); have k0 : w3.cell? ⟨w.heap.size, 0, none⟩ = some (.int .i64 0) := (by rw [hb_w3.cell lw1, hc_w1 _ _ (by simp)]; simp [go_sem]); have k1 : w3.cell? ⟨w.heap.size, 1, none⟩ = some (.int .i64 0) := (by rw [hb_w3.cell lw1, hc_w1 _ _ (by simp)]; simp [go_sem]); have kf : w3.frozen? ⟨w.heap.size, 0, none⟩ = false := (by rw [hb_w3.frozen lw1, hf_w1 _ _ (by simp)]; simp [go_sem]); have kg : w3.frozen? ⟨w.heap.size, 1, none⟩ = false := (by rw [hb_w3.frozen lw1, hf_w1 _ _ (by simp)]; simp [go_sem])))
  exact bodyPost_ret (v := .tuple #[.agg #[.int .i64 v.1, .int .i64 v.2], .bool true]) (by simp [results, Try.results57, go_sem, k0, k1]) rfl ⟨rfl, (by repeat (first | assumption | exact Below.refl _ _ | (refine below_chain ?_ (by assumption) (by first | omega | (simp <;> omega) | simp)) | (refine Below.alloc ?_ (by first | omega | (simp <;> omega) | simp) _) | (apply below_drewN) | (apply below_drew) | (refine Below.setCell ?_ (by first | omega | (simp <;> omega) | simp) _)))⟩
end
end Go.Proofs.Ytgncjpakclbegaa
