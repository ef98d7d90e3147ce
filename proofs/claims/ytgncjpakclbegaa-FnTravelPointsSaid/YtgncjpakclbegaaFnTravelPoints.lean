/-
  For every code the law FnTravelPoints returns true: impl.TravelPoints answers as the reference model does; between two neighbouring points lies the step between them, the first point is where the traverse begins and the last one its end, and there is one point more than there are steps. No condition: every list of bytes is taken.
-/
import Derived.Test.YtgncjpakclbegaaPka
import Derived.Test.YtgncjpakclbegaaHd
import Derived.Test.YtgncjpakclbegaaHg
import Derived.Test.YtgncjpakclbegaaHi
import Derived.Test.YtgncjpakclbegaaHj
import Derived.Test.YtgncjpakclbegaaCode
set_option linter.unusedSimpArgs false
set_option linter.unusedVariables false
namespace Go.Proofs.Ytgncjpakclbegaa.fnTravelPoints
open Go.ChangeShapes Go.WideShapes Go.ChangeAt Go.RowKit Poly

/-- a point in a block -/
def At (W : World) (X : Nat) (z : P2) : Prop := X < W.heap.size ∧ W.cell? ⟨X, 0, none⟩ = some (.int .i64 z.1) ∧ W.cell? ⟨X, 1, none⟩ = some (.int .i64 z.2)
theorem At.below {W W' : World} {X : Nat} {z : P2} {b : Nat} (h : At W X z) (hx : X < b) (hb : Below b W W') : At W' X z :=
  ⟨Nat.lt_of_lt_of_le h.1 hb.size, (hb.cell (p := ⟨X, 0, none⟩) hx).trans h.2.1, (hb.cell (p := ⟨X, 1, none⟩) hx).trans h.2.2⟩
theorem At.new (W : World) (x y : Int) (T : TypeId) : At (W.alloc (.cells #[.int .i64 x, .int .i64 y] T)) W.heap.size (x, y) :=
  ⟨by simp, World.cell?_alloc_new _ _ _ 0, World.cell?_alloc_new _ _ _ 1⟩
theorem way_step {L : List P2} {p : P2} {k : Nat} (h : goT p L = true) (hk : k < L.length) : ∃ a b : P2, (wayT p L)[k]? = some a ∧ (wayT p L)[k + 1]? = some b ∧ pvP a = true ∧ pvP b = true ∧ b.1 - a.1 = (cy L k).1 ∧ b.2 - a.2 = (cy L k).2 := by
  have hs : endT p (L.take (k + 1)) = adP (endT p (L.take k)) (cy L k) := by
    rw [List.take_add_one, cy_lt hk]; exact endT_snoc _ _ _
  refine ⟨_, _, wayT_at L p k (by omega), wayT_at L p (k + 1) (by omega), goT_at h (by omega), goT_at h (by omega), ?_, ?_⟩
  · rw [hs]; unfold adP; simp only; omega
  · rw [hs]; unfold adP; simp only; omega
theorem way_first {L : List P2} {p : P2} : (wayT p L)[0]? = some p := by cases L <;> rfl
theorem step_of {a b c d s t : Int} (w : World) (h1 : Pt.pv a b = true) (h2 : Pt.pv c d = true) (hs : c - a = s) (ht : d - b = t) :
    Calls Try.prog 40 #[.agg #[.int .i64 a, .int .i64 b], .agg #[.int .i64 c, .int .i64 d]] w fun e w' => e = .returned (.tuple #[.agg #[.int .i64 s, .int .i64 t], .bool true]) ∧ Below w.heap.size w w' := by
  subst hs ht
  exact iStep_yes a b c d w (by unfold both; rw [h1, h2]; rfl)

set_option maxHeartbeats 8000000 in
set_option maxRecDepth 100000 in
theorem walk (len cap : Nat) (p : Option Addr) (w : World) (hl : len ≤ 1048576) (h : Hid (Code' w (.slice p len cap))) :
    Calls Try.prog 7 #[.slice p len cap] w fun e w' => e = .returned (.bool true) ∧ Below w.heap.size w w' := by
  have hl' : ¬ (1048576 : Int) < (len : Int) := by omega
  go_enter Try.func7, Try.ntmps7
  go_upto_region 4 with (go_at_call 36; (with_reducible refine (drawTravelPoints_is _ _ h).mono ?_); rintro e wd ⟨x, y, L, q, c, rfl, hc, h12, hI, hne, hb_wd⟩; have hs_wd := hb_wd.size)
  clear h hne
  obtain ⟨n, hn⟩ : ∃ n, L.length = n := ⟨_, rfl⟩
  rw [hn] at hc h12 ⊢
  have hA0 := At.new wd x y 31
  obtain ⟨X, hX⟩ : ∃ X, X = wd.heap.size := ⟨_, rfl⟩
  rw [← hX] at hA0 ⊢
  refine gen_world (fun W => At W X (x, y) ∧ Ints W q (Poly.fl L) ∧ Below w.heap.size w W) ⟨hA0, hI.below ((Below.refl _ _).alloc (Nat.le_refl _) _), hb_wd.alloc hs_wd _⟩ (fun we hp => ?_)
  have H := Lib.hid (And.intro hp.2.1 (And.intro hn (And.intro hp.1 hp.2.2)))
  have hwe := hp.2.2.size
  obtain ⟨hXl, k0, k1⟩ := hp.1
  simp only at k0 k1
  have hIe := hp.2.1
  clear hp hA0 hX hI hb_wd hs_wd
  cases hg : goT (x, y) L
  · have c1 := fun w h => Lib.hid (iTravelPoints_no (p := q) (n := n) (c := c) (L := L) (w := w) (x := x) (y := y) h hn hg)
    have c2 := fun w h => Lib.hid (sTravelPoints_no (p := q) (n := n) (c := c) (L := L) (w := w) (x := x) (y := y) h hn (by omega) hg)
    clear hIe hn hg
    go_wp2_with (first | ((go_at_call 37; (with_reducible refine ((c1 _ ?_).out).mono ?_); (focus ((exact H.out.1); done)); rintro e wi ⟨rfl, hb_wi⟩; have hs_wi := hb_wi.size; (try simp at hs_wi)); have k0 := (hb_wi.cell (p := ⟨X, 0, none⟩) hXl).trans k0; have k1 := (hb_wi.cell (p := ⟨X, 1, none⟩) hXl).trans k1) | (go_at_call 38; (with_reducible refine ((c2 _ ?_).out).mono ?_); (focus ((exact H.out.1.below hb_wi); done)); rintro e ws ⟨g2, m2, d2, rfl, rfl, hb_ws⟩; have hs_ws := hb_ws.size; (try simp at hs_ws)) | (go_at_call 39; (with_reducible refine (samePts_nil _ _ _ _ _).mono ?_); rintro e wz ⟨rfl, hb_wz⟩; have hs_wz := hb_wz.size; (try simp at hs_wz)))
    go_ret
    exact ⟨rfl, H.out.2.2.2.trans (by repeat (first | assumption | exact Below.refl _ _ | (refine below_chain ?_ (by assumption) (by first | omega | (simp <;> omega) | simp)) | (refine Below.alloc ?_ (by first | omega | (simp <;> omega) | simp) _) | (apply below_drewN) | (apply below_drew) | (refine Below.setCell ?_ (by first | omega | (simp <;> omega) | simp) _)))⟩
  · have ht := (goT_parts hg).1
    have hn1 := (tvV_len ht).1
    rw [hn] at hn1
    obtain ⟨B, o, rfl, hB, -, -⟩ := hIe.pt (i := 0) (by omega)
    have c1 := fun w h => Lib.hid (iTravelPoints_yes (p := some ⟨B, o, none⟩) (n := n) (c := c) (L := L) (w := w) (x := x) (y := y) h hn hg)
    have c2 := fun w h => Lib.hid (sTravelPoints_yes (p := some ⟨B, o, none⟩) (n := n) (c := c) (L := L) (w := w) (x := x) (y := y) h hn hg)
    have hwl : (wayT (x, y) L).length = n + 1 := by rw [wayT_len, hn]
    have hG := Lib.hid (And.intro hg hwl)
    clear hIe hn hwl
    go_upto_region 8 with (first | ((go_at_call 37; (with_reducible refine ((c1 _ ?_).out).mono ?_); (focus ((exact H.out.1); done)); rintro e wi ⟨g1, d1, rfl, hg1, ho1, hb_wi⟩; have hs_wi := hb_wi.size; (try simp at hs_wi)); have k0 := (hb_wi.cell (p := ⟨X, 0, none⟩) hXl).trans k0; have k1 := (hb_wi.cell (p := ⟨X, 1, none⟩) hXl).trans k1) | (go_at_call 38; (with_reducible refine ((c2 _ ?_).out).mono ?_); (focus ((exact H.out.1.below hb_wi); done)); rintro e ws ⟨g2, d2, rfl, hg2, ho2, hb_ws⟩; have hs_ws := hb_ws.size; (try simp at hs_ws)) | (go_at_call 39; (with_reducible refine (samePts _ _ (n + 1) _ _ (wayT (x, y) L) _ ?_ ?_ hG.out.2 (by omega)).mono ?_); (focus ((exact (ho1.below hb_ws).pts); done)); (focus ((exact ho2.pts); done)); rintro e wz ⟨rfl, hb_wz⟩; have hs_wz := hb_wz.size; (try simp at hs_wz)))
    have hiw : Below wi.heap.size wi wz := (by repeat (first | assumption | exact Below.refl _ _ | (refine below_chain ?_ (by assumption) (by first | omega | (simp <;> omega) | simp)) | (refine Below.alloc ?_ (by first | omega | (simp <;> omega) | simp) _) | (apply below_drewN) | (apply below_drew) | (refine Below.setCell ?_ (by first | omega | (simp <;> omega) | simp) _)))
    have hew : Below we.heap.size we wz := hb_wi.trans (hiw.mono hs_wi)
    have HK : Hid (At wz X (x, y) ∧ Ints wz (some ⟨B, o, none⟩) (Poly.fl L) ∧ Own wz g1 31 2 (n + 1) d1 (Poly.fl (wayT (x, y) L)) ∧ Below w.heap.size w wz) := Lib.hid ⟨H.out.2.2.1.below hXl hew, H.out.1.below hew, ho1.below hiw, H.out.2.2.2.trans (hew.mono hwe)⟩
    have hHn := H.out.2.1
    have hlz := hew.size
    have hlg := (ho1.below hiw).lt
    clear k0 k1 ho1 ho2 hb_wi hb_ws hb_wz hs_wi hs_ws hs_wz hg1 hg2 c1 c2 hew hiw H
    go_wp2_with fail
    go_loopw [9] (fun i wr => ∃ k : Nat, k ≤ n ∧ i = .int .i64 k ∧ Below wz.heap.size wz wr) (fun i _ => n - (intOf i).toNat)
    case atStart => exact ⟨0, Nat.zero_le _, rfl, Below.refl _ _⟩
    case round =>
      obtain ⟨k, hk, rfl, hb⟩ := hrel
      have hbs := hb.size
      by_cases hlt : k < n
      · have hlt' : (k : Int) < (n : Int) := by omega
        have hk0 : (0 : Int) ≤ (k : Int) := by omega
        have hk1 : (k : Int) < (n : Int) + 1 := by omega
        have hk2 : (k : Int) + 1 < (n : Int) + 1 := by omega
        have hk3 : (0 : Int) ≤ (k : Int) + 1 := by omega
        have hwk : IntKind.i64.wrap ((k : Int) + 1) = ((k + 1 : Nat) : Int) := by rw [IntKind.wrap_i64]; omega
        have hkL : k < L.length := by omega
        obtain ⟨a, b, ha, hb', hav, hbv, hx, hy⟩ := way_step hG.out.1 hkL
        obtain ⟨B0, o0, e0, hB0, c0', c1'⟩ := HK.out.2.1.pt (i := k) hkL
        simp only [Option.some.injEq, Addr.mk.injEq] at e0
        obtain ⟨rfl, rfl, -⟩ := e0
        obtain ⟨s, hs⟩ : ∃ s, cy L k = s := ⟨_, rfl⟩
        rw [hs] at c0' c1' hx hy
        obtain ⟨s1, s2⟩ := s
        obtain ⟨a1, a2⟩ := a
        obtain ⟨b1, b2⟩ := b
        simp only at c0' c1' hx hy
        have c0 := (hb.cell (p := ⟨B, o + k * 2, none⟩) hB0).trans c0'
        have c1 := (hb.cell (p := ⟨B, o + k * 2 + 1, none⟩) hB0).trans c1'
        have ho := HK.out.2.2.1.below hb
        have d0 := ho.cells (fl_at ha).1
        have d1' := ho.cells (fl_at ha).2
        have f0 := ho.cells (fl_at hb').1
        have f1 := ho.cells (fl_at hb').2
        simp only at d0 d1' f0 f1
        have cm := fun w => Lib.hid (step_of (s := s1) (t := s2) w hav hbv hx hy)
        have hlB : B < wr.heap.size := by omega
        have hlG : g1 < wr.heap.size := by omega
        have HB := Lib.hid hb
        clear hb ho ha hb' hav hbv hx hy hs c0' c1' hB0
        go_upto_region 11 with fail
        apply ways_cellT (x := s1) (y := s2) (V := wr)
        · intro REST
          go_region_held3 (fun W => W.cell? ⟨g1, k * 2, none⟩ = some (.int .i64 a1) ∧ W.cell? ⟨g1, k * 2 + 1, none⟩ = some (.int .i64 a2) ∧ W.cell? ⟨g1, (k + 1) * 2, none⟩ = some (.int .i64 b1) ∧ W.cell? ⟨g1, (k + 1) * 2 + 1, none⟩ = some (.int .i64 b2)) (((try dsimp only); (try go_split_ands); refine ⟨?_, ?_, ?_, ?_⟩ <;> (first | ((repeat (first | with_reducible assumption | (with_reducible refine cell_below_keep (by with_reducible assumption) ?_) | (with_reducible refine cell_gb_keep (by with_reducible assumption) (by omega) ?_) | (simp [go_sem]; done) | (with_reducible refine cell_alloc_keep _ ?_) | (with_reducible refine cell_drew_keep ?_) | (with_reducible refine cell_drewN_keep _ ?_) | (with_reducible refine cell_set_keep _ (by first | (simp; omega) | omega) ?_))); done) | (simp [*, go_sem]; done)))) ((go_at_call 40; (with_reducible refine ((cm _).out).mono ?_); rintro e wm ⟨rfl, hbn⟩; obtain ⟨hcn, hfn⟩ := bcell hbn; (try simp only [World.size_drew, World.cell?_drew, World.frozen?_drew, World.heap_drewN, World.cell?_drewN, World.frozen?_drewN] at hcn hfn); have hsz := hbn.size; (try simp at hsz); (try have hsl := Nat.lt_of_succ_le hsz); (try have hz0 : B < wm.heap.size := (by have := hbn.size; (try simp at this); omega)); (try have hz1 : g1 < wm.heap.size := (by have := hbn.size; (try simp at this); omega))))
          all_goals
            first
            | (have z0 : wm.cell? ⟨wr.heap.size, 0, none⟩ = some (.int .i64 0) := (by rw [hcn _ _ (by simp)]; simp [go_sem])
               have z1 : wm.cell? ⟨wr.heap.size, 1, none⟩ = some (.int .i64 0) := (by rw [hcn _ _ (by simp)]; simp [go_sem])
               have hYA : CellT ((wm.setCell ⟨wr.heap.size, 0, none⟩ (.int .i64 s1)).setCell ⟨wr.heap.size, 1, none⟩ (.int .i64 s2)) wr.heap.size s1 s2 := (by refine ⟨?_, ?_⟩ <;> simp [go_sem, z0, z1])
               have hBA : Below wr.heap.size wr ((wm.setCell ⟨wr.heap.size, 0, none⟩ (.int .i64 s1)).setCell ⟨wr.heap.size, 1, none⟩ (.int .i64 s2)) := ((((below_dr ((Below.refl _ wr).alloc (Nat.le_refl _) (.cells #[.int .i64 0, .int .i64 0] 31))).trans (hbn.mono (by simp))).setCell (p := ⟨wr.heap.size, 0, none⟩) (Nat.le_refl _) _).setCell (p := ⟨wr.heap.size, 1, none⟩) (Nat.le_refl _) _)
               refine gen_exitH (fun W => CellT W wr.heap.size s1 s2 ∧ Below wr.heap.size wr W) ⟨hYA, hBA⟩ (fun W hW => ?_)
               obtain ⟨hW1, hW2⟩ := hW
               obtain ⟨Y, hYe⟩ : ∃ Y, wr.heap.size = Y := ⟨_, rfl⟩
               have hW2' := Lib.hid hW2
               clear hW2
               rw [hYe] at hW1 ⊢
               exact REST Y W hW1 hW2'.out)
            | (have hYA : CellT (wm.alloc (.cells #[.int .i64 s1, .int .i64 s2] 31)) wm.heap.size s1 s2 := (by refine ⟨?_, ?_⟩ <;> simp [go_sem])
               have hBA : Below wr.heap.size wr (wm.alloc (.cells #[.int .i64 s1, .int .i64 s2] 31)) := ((below_dr (Below.refl _ wr)).trans hbn).alloc hsz _
               obtain ⟨Y, hYe⟩ : ∃ Y, wm.heap.size = Y := ⟨_, rfl⟩
               rw [hYe] at hYA ⊢
               refine gen_exitH (fun W => CellT W Y s1 s2 ∧ Below wr.heap.size wr W) ⟨hYA, hBA⟩ (fun W hW => ?_)
               exact REST Y W hW.1 hW.2)
            | trace_state
        · intro Y W hY hBW
          obtain ⟨y0, y1⟩ := hY
          have hsW := hBW.size
          have c0 := (hBW.cell (p := ⟨B, o + k * 2, none⟩) hlB).trans c0
          have c1 := (hBW.cell (p := ⟨B, o + k * 2 + 1, none⟩) hlB).trans c1
          clear d0 d1' f0 f1 cm
          have HW := Lib.hid (HB.out.trans (hBW.mono hbs))
          clear hBW hlB hlG
          go_upto_region 12 with fail
          go_region_held3 (fun W => W.cell? ⟨Y, 0, none⟩ = some (.int .i64 s1) ∧ W.cell? ⟨Y, 1, none⟩ = some (.int .i64 s2) ∧ W.cell? ⟨B, o + k * 2, none⟩ = some (.int .i64 s1) ∧ W.cell? ⟨B, o + k * 2 + 1, none⟩ = some (.int .i64 s2)) ((go_keep; done)) (fail)
          all_goals go_wp2_with fail
          exact ⟨⟨k + 1, by omega, by go_num, below_dr HW.out⟩, by (try simp [intOf]); (try omega)⟩
      · have e : k = n := by omega
        subst e
        have HB := Lib.hid (HK.out.2.2.2.trans (hb.mono HK.out.2.2.2.size))
        have cE := fun w h => Lib.hid (iTravelEnd_yes (p := some ⟨B, o, none⟩) (n := k) (c := c) (L := L) (w := w) (x := x) (y := y) h hHn hG.out.1 rfl)
        obtain ⟨z, hz⟩ : ∃ z, endT (x, y) L = z := ⟨_, rfl⟩
        rw [hz] at cE
        have hr := HK.out.1.below (Nat.lt_of_lt_of_le hXl hlz) hb
        have k0 := hr.2.1
        have k1 := hr.2.2
        simp only at k0 k1
        have hXr := hr.1
        have hI := Lib.hid (HK.out.2.1.below hb)
        have HO := Lib.hid (HK.out.2.2.1.below hb)
        have hll := HO.out.lt
        have HR := Lib.hid hb
        clear hr hb
        go_upto_region 15 with ((go_at_call 33; (with_reducible refine ((cE _ ?_).out).mono ?_); (focus ((exact hI.out); done)); rintro e wf ⟨rfl, hb_wf⟩; have hs_wf := hb_wf.size; (try simp at hs_wf)); have k0 := (hb_wf.cell (p := ⟨X, 0, none⟩) hXr).trans k0; have k1 := (hb_wf.cell (p := ⟨X, 1, none⟩) hXr).trans k1)
        have hA0 := At.new wf z.1 z.2 31
        obtain ⟨Y, hY⟩ : ∃ Y, Y = wf.heap.size := ⟨_, rfl⟩
        rw [← hY] at hA0 ⊢
        have hbf : Below wr.heap.size wr (wf.alloc (.cells #[.int .i64 z.1, .int .i64 z.2] 31)) := hb_wf.alloc hs_wf _
        refine gen_world (fun W => At W Y z ∧ Below wr.heap.size wr W) ⟨hA0, hbf⟩ (fun wq hp => ?_)
        obtain ⟨⟨-, y0, y1⟩, hq⟩ := hp
        have x0 := (hq.cell (p := ⟨X, 0, none⟩) hXr).trans (HK.out.1.below (Nat.lt_of_lt_of_le hXl hlz) HR.out).2.1
        have x1 := (hq.cell (p := ⟨X, 1, none⟩) hXr).trans (HK.out.1.below (Nat.lt_of_lt_of_le hXl hlz) HR.out).2.2
        have hoq := HO.out.below hq
        have a0 := hoq.cells (fl_at (way_first (L := L) (p := (x, y)))).1
        have a1 := hoq.cells (fl_at (way_first (L := L) (p := (x, y)))).2
        have hw := wayT_last L (x, y)
        rw [hHn, hz] at hw
        have e0 := hoq.cells (fl_at hw).1
        have e1 := hoq.cells (fl_at hw).2
        simp only [Nat.zero_mul, Nat.zero_add] at x0 x1 a0 a1 e0 e1
        have HQ := Lib.hid (HB.out.trans (hq.mono HB.out.size))
        have hkp : (k : Int) < (k : Int) + 1 := by omega
        have hk0 : (0 : Int) ≤ (k : Int) := by omega
        have hk3 : (0 : Int) < (k : Int) + 1 := by omega
        have hwk : IntKind.i64.wrap ((k : Int) + 1) = (k : Int) + 1 := by rw [IntKind.wrap_i64]; omega
        clear hA0 hY hb_wf hs_wf hq hbf hoq k0 k1 hw cE hz
        go_region_held3 (fun W => W.cell? ⟨Y, 0, none⟩ = some (.int .i64 z.1) ∧ W.cell? ⟨Y, 1, none⟩ = some (.int .i64 z.2) ∧ W.cell? ⟨X, 0, none⟩ = some (.int .i64 x) ∧ W.cell? ⟨X, 1, none⟩ = some (.int .i64 y) ∧ W.cell? ⟨g1, 0, none⟩ = some (.int .i64 x) ∧ W.cell? ⟨g1, 1, none⟩ = some (.int .i64 y) ∧ W.cell? ⟨g1, k * 2, none⟩ = some (.int .i64 z.1) ∧ W.cell? ⟨g1, k * 2 + 1, none⟩ = some (.int .i64 z.2)) ((go_keep; done)) (fail)
        all_goals go_wp2_with fail
        go_ret
        exact ⟨rfl, below_dr HQ.out⟩

set_option maxRecDepth 100000 in
theorem walk_long (len cap : Nat) (p : Option Addr) (w : World) (hl : 1048576 < len) :
    Calls Try.prog 7 #[.slice p len cap] w fun e w' => e = .returned (.bool true) ∧ Below w.heap.size w w' := by
  have hl' : (1048576 : Int) < (len : Int) := by omega
  go_enter Try.func7, Try.ntmps7
  go_wp2
  go_ret
  exact ⟨rfl, Below.refl _ _⟩

set_option maxRecDepth 100000 in
theorem lifted (os : Os) (started : os.Started) (H : Type) (enc : TypeId × Value → H) :
    ReturnsInHanded {} Try.checked os 7 .any (Rows.fnTravelPointsSpec.pre6 enc Try.prog Try.f7 Rows.fnTravelPointsRow.domain false) (Rows.fnTravelPointsSpec.post enc Try.prog Try.f7 false true false false) := by
  refine returnsInHanded_of_change (C := Try.checked) own started (by kernel_rfl) Try.func7
    (ChangeSpec.witness6 (enc := enc) (C := Try.checked) false ⟨#[], #[.slice none 0 0], []⟩ 8 (by kernel_rfl) (by kernel_rfl) (by kernel_rfl) (by kernel_rfl)) ?_
  intro W base args ds gs before hval0 hW hcnd _
  have hval : ∀ (j : Nat) t v, Try.f7.params[j]? = some t → args[j]? = some v → Value.okWide Try.prog W .any base t v := hval0
  have hW' := hW
  obtain ⟨p, q, hA0, hV, rfl, hfz, hnd⟩ := hW
  have hA : DataW.TrodAll enc Try.prog W 0 (fun _ => true) true Try.f7.params.toList args.toList ds p := hA0
  rw [Try.params7] at hA hval
  obtain ⟨v0, vs0, d0, ds0, p0, q0, hargs, rfl, rfl, h0, r0⟩ := trodAll_cons hA
  obtain ⟨rfl, rfl, rfl⟩ := trodAll_nil r0
  obtain rfl : args = #[v0] := by cases args; simp_all
  obtain ⟨rfl, rfl⟩ := trodVars_none hV
  obtain ⟨a0, len0, cap0, rfl⟩ := okWide_slice Try.underlying22 (hval 0 22 v0 rfl rfl)
  have k0 := h0
  have lt0 : ∀ x ∈ p0, x.block < W.heap.size := by obtain ⟨m, hm⟩ := k0; exact DataW.trod_lt m _ _ _ hm
  obtain ⟨z0, w0⟩ : ∃ zs, IsRow .u8 W a0 len0 cap0 zs := by
    obtain ⟨fuel, hf⟩ := h0
    rcases open_ints Try.underlying22 Try.underlying5 (by kernel_rfl) hf with ⟨hcs, _⟩ | ⟨x, l, c, zs, hcs, _, hl, hm, hz, _, hcell, hwz⟩
    · simp [Value.cells] at hcs
      obtain ⟨rfl, rfl, rfl⟩ := hcs
      exact ⟨[], .inl ⟨rfl, rfl, rfl, rfl⟩⟩
    · simp [Value.cells] at hcs
      obtain ⟨rfl, rfl, rfl⟩ := hcs
      exact ⟨zs, .inr ⟨_, rfl, hl, hm, by simpa using hz, hcell, hwz⟩⟩
  clear hA0 hval0
  have hw : Calls Try.prog 7 #[.slice a0 len0 cap0] W fun e w' => e = .returned (.bool true) ∧ Below W.heap.size W w' := by
    by_cases hl : len0 ≤ 1048576
    · exact walk len0 cap0 a0 W hl (Lib.hid (code_of_row w0 hl))
    · exact walk_long len0 cap0 a0 W (by omega)
  refine hw.mono fun e W' ⟨he, bel⟩ => ?_
  subst he
  exact ⟨_, rfl, _, _, _, [], _, [], hW', trodAll_mk1 (shut_bool Try.underlying4 _), (trodAll_cons_mk (Below.trod laidOut (by kernel_rfl) (of_decide_eq_true (by kernel_rfl)) k0 bel lt0) trodAll_mk0), rfl, bel.frame _, fun h => by cases h⟩

theorem over : Rows.fnTravelPointsRow.holds Try.pinned (OpenSpec.ofChange Rows.fnTravelPointsSpec) :=
  OpenClaim.holds_of_wide 7 Try.f7 rfl rfl rfl rfl rfl rfl rfl ⟨rfl, rfl, rfl, rfl, rfl⟩ rfl rfl rfl rfl rfl (by kernel_rfl) Try.func7 (by unfold joinedFacts; rw [seat_enter, seat_lift, seat_make]; kernel_rfl)
    (of_decide_eq_true (by kernel_rfl)) (by unfold Func.isWrapper; first | (rw [if_pos (by decide +kernel)]; kernel_rfl) | (rw [if_neg (by decide +kernel)]; exact ⟨rfl, rfl⟩))
    (fun os started H enc _ => lifted os started H enc)

theorem proved : Rows.FnTravelPointsSaid := over
end Go.Proofs.Ytgncjpakclbegaa.fnTravelPoints

