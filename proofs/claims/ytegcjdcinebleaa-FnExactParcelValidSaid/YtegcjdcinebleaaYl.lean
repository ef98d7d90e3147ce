/-
  What the program's polygons answer that range over their corners: areas, points on the sides.
-/
import Derived.Test.YtegcjdcinebleaaYi
import Derived.Test.YtegcjdcinebleaaYw
import Derived.Test.YtegcjdcinebleaaYc
import Derived.Test.YtegcjdcinebleaaPv
namespace Go.Proofs.Ytegcjdcinebleaa
open Go.RowKit Go.Shelf Poly
set_option linter.unusedVariables false
attribute [local go_sem] Oper.semAt_some

set_option maxRecDepth 100000 in
set_option maxHeartbeats 4000000 in
theorem iArea {n₀ : Nat} {A : Nat → Nat} {L : List P2} {w : World} (hR : RingB n₀ A L w) (hn : n₀ ≤ w.heap.size) (hok : okP L = true) :
    Calls Try.prog 70 #[.agg #[.pointer (some ⟨A 0, 0, none⟩)]] w fun e w' => e = .returned (.int .i64 (areaL L)) ∧ Below w.heap.size w w' := by
  refine (callsIn_wide (n := 9)).1 ?_
  have HR := Lib.hid (And.intro hR hok)
  have hl := okP_len hok
  clear hR hok
  refine callsIn_of_wp_marks Try.func70 rfl trivial ?_ rfl
  simp only [Try.ntmps70, List.size_toArray, List.length_cons, List.length_nil, Nat.reduceAdd, Nat.reduceSub, Array.replicate_succ, Array.replicate_zero, List.push_toArray, List.append_toArray, List.nil_append, List.cons_append]
  gi_wp2
  refine ⟨by simp [Fence.wide], ?_⟩
  refine ((callsIn_wide.2 (iCorners _ _)).mono ?_)
  rintro e w' ⟨rfl, hw'⟩
  obtain ⟨w3, hw3⟩ : ∃ W, W = w' := ⟨_, rfl⟩
  rw [← hw3] at hw' ⊢
  have hsz : w3.heap.size = w.heap.size + 3 := by rw [hw']; simp
  have hb3 : Below w.heap.size w w3 := by
    rw [hw']
    exact (((Below.refl _ w).alloc (Nat.le_refl _) _).alloc (by simp) _).alloc (by simp; omega) _
  have y1 : w3.cell? ⟨w.heap.size + 1, 0, none⟩ = some (.int .i64 0) := by rw [hw']; simp [go_sem]
  have y2 : w3.cell? ⟨w.heap.size + 1 + 1, 0, none⟩ = some (.pointer (some ⟨A 0, 0, none⟩)) := by rw [hw']; simp [go_sem]
  have f1 : w3.frozen? ⟨w.heap.size + 1, 0, none⟩ = false := by rw [hw']; simp [go_sem]
  clear hw' hw3
  have hgive := corners_stops 8 (by decide) (w.heap.size + 1 + 1) n₀ A L (by omega) w3 (by omega) (by omega) y2 (HR.out.1.below (hb3.mono hn))
  gi_wp2
  refine wpIn_rangeFunc_ownF (F := Fence.wide) rfl (by decide) (gf := 119) (lb := #[.pointer (some ⟨w.heap.size + 1 + 1, 0, none⟩)]) rfl trivial (enters_of Try.func119 (by kernel_rfl) rfl) hgive
    (fun h k => h.t k) (Kp2.b (by omega) (by omega)) (Below.refl _ _) (fun _ => rfl)
    (fun pre W => W.cell? ⟨w.heap.size + 1, 0, none⟩ = some (.int .i64 (sumL (fun i => crP (cy L i) (cy L (i + 1))) pre)) ∧ W.frozen? ⟨w.heap.size + 1, 0, none⟩ = false ∧ Hold w n₀ A L w3.heap.size W)
    (fun _ _ _ => False)
    (fun s W W' row hs hg hr => ⟨cell_kept hs.1 hg (fun r e => (hr r e).2), (frozen_kept hs.1 hg (fun r e => (hr r e).2)).trans hs.2.1, hs.2.2.own (by omega) hg hr⟩)
    (fun _ _ _ _ _ hs _ _ => hs)
    ⟨y1, f1, HR.out.1.below (hb3.mono hn), hb3, Nat.le_refl _⟩
    (fun x => { tmps := #[.agg #[.pointer (some ⟨A 0, 0, none⟩)], .pointer (some ⟨w.heap.size, 0, none⟩), .int .i64 0, .pointer (some ⟨w.heap.size + 1, 0, none⟩), .pointer (some ⟨A x, 0, none⟩), .agg #[.pointer (some ⟨A 0, 0, none⟩)], .func (.func 119) #[] #[.pointer (some ⟨w.heap.size + 1 + 1, 0, none⟩)], .pointer (some ⟨A x, 0, none⟩), undef, undef, undef, undef, undef, undef, undef, undef, undef, undef, undef, undef, undef, undef, undef, undef, undef], defers := [] }) ?assign ?body ?done ?stop
  case assign =>
    intro l x W K hK
    gi_wp2
    exact hK
  case body =>
    rintro l pre x W ⟨hc, hf, hH⟩ hlen
    gi_wp2
    have hv := okP_at HR.out.2
    have hsm := sumL_bd (f := fun i => crP (cy L i) (cy L (i + 1))) (m := 200000000) (fun i => crP_bd (hv i) (hv (i + 1))) pre
    have hm : (200000000 : Int) * (pre.length : Int) ≤ 2400000000 := by omega
    have hcb := crP_bd (hv x) (hv (x + 1))
    have c1 := fun w => Lib.hid (cross_any (cy L x).1 (cy L x).2 (cy L (x + 1)).1 (cy L (x + 1)).2 w (sv_pv (hv x)) (sv_pv (hv (x + 1))))
    obtain ⟨x0, x1, x2⟩ := hH.ring.ring.cells x
    obtain ⟨z0, z1, z2⟩ := hH.ring.ring.cells (x + 1)
    have l1 : A x < W.heap.size := by have := hH.ring.ring.lt x; have := hH.size; omega
    have l2 : A (x + 1) < W.heap.size := by have := hH.ring.ring.lt (x + 1); have := hH.size; omega
    have l3 : w.heap.size + 1 < W.heap.size := by have := hH.size; omega
    obtain ⟨s, hs⟩ : ∃ s, sumL (fun i => crP (cy L i) (cy L (i + 1))) pre = s := ⟨_, rfl⟩
    have hcr : Pt.cr (cy L x).1 (cy L x).2 (cy L (x + 1)).1 (cy L (x + 1)).2 = crP (cy L x) (cy L (x + 1)) := rfl
    rw [hs] at hc hsm
    simp only [hcr] at c1
    obtain ⟨t, ht⟩ : ∃ t, crP (cy L x) (cy L (x + 1)) = t := ⟨_, rfl⟩
    rw [ht] at hcb
    simp only [ht] at c1
    have hW3 := hH.size
    have HH := Lib.hid (And.intro hH (And.intro hs ht))
    clear hH hs hv hcr ht
    (refine round_grows_tail 16 (by kernel_rfl) (by kernel_rfl) (by kernel_rfl) (fun ⟨_, _, h⟩ => h) ?_; simp only [List.take_succ_cons, List.take_zero, List.drop_succ_cons, List.drop_zero]; intro W_wg hWc_wg hWs_wg hWe_wg; (repeat (go_big_quiet_step ((first | (go_at_call 82; with_reducible exact Ext.call (placeOf_any _ _ _)) | (go_at_call 95; with_reducible exact Ext.call ((c1 _).out)))))); with_reducible refine wpQuiet_nil ?_; clear hWe_wg hWs_wg hWc_wg W_wg; intro wg hb_wg; obtain ⟨hc_wg, hf_wg⟩ := bcell hb_wg; (try simp only [World.size_drew, World.cell?_drew, World.frozen?_drew, World.heap_drewN, World.cell?_drewN, World.frozen?_drewN] at hc_wg hf_wg); have hs_wg := hb_wg.size; (try simp at hs_wg))
    go_wp2_with fail
    have hHg := HH.out.1.next (W' := wg) hn (by omega) (hb_wg.mono HH.out.1.size)
    exact ⟨(keeps_below hb_wg).trans (KeepsOthers.setCell _ _ _), Kp2.put hb_wg (by omega) (by omega) (by omega) (by omega) _,
      by rw [sumL_snoc, HH.out.2.1, HH.out.2.2]; exact World.cell?_setCell_same' _ _ _ (by rw [hc_wg _ _ l3, hc]; rfl), by rw [World.frozen?_setCell, hf_wg _ _ l3]; exact hf, hHg.put hn (by omega) _⟩
  case done =>
    rintro D ys W hD rfl ⟨hc, hf, hH⟩ hK
    gi_wp2
    refine ⟨by simp, .inl ⟨_, _, rfl, run_takeDeferred hK, ?_⟩⟩
    exact ⟨_, results_tmp rfl _ _ _, by rw [sumL_range]; rfl, hH.below.trans (below_put W D _ (by omega))⟩
  case stop =>
    rintro D c pre W _ _ h _
    exact h.elim
theorem gapP_bd' {a b : P2} (h : pvP a = true) (h' : pvP b = true) : -20000 ≤ gapP a b ∧ gapP a b ≤ 20000 := by have := gapP_bd h h'; omega
theorem iGapsP {a b : P2} (ha : pvP a = true) (hb : pvP b = true) (w : World) :
    Calls Try.prog 41 #[.agg #[.int .i64 a.1, .int .i64 a.2], .agg #[.int .i64 b.1, .int .i64 b.2]] w fun e w' => e = .returned (.int .i64 (gapP a b)) ∧ Below w.heap.size w w' := by
  have := iGaps_any a.1 a.2 b.1 b.2 w
  rw [show both a.1 a.2 b.1 b.2 = true by unfold both; unfold pvP at ha hb; rw [ha, hb]; rfl] at this
  exact this
set_option maxRecDepth 100000 in
set_option maxHeartbeats 4000000 in
theorem iEdge {n₀ : Nat} {A : Nat → Nat} {L : List P2} {w : World} (hR : RingB n₀ A L w) (hn : n₀ ≤ w.heap.size) (hok : okP L = true) :
    Calls Try.prog 75 #[.agg #[.pointer (some ⟨A 0, 0, none⟩)]] w fun e w' => e = .returned (.int .i64 (edgeL L)) ∧ Below w.heap.size w w' := by
  refine (callsIn_wide (n := 9)).1 ?_
  have HR := Lib.hid (And.intro hR hok)
  have hl := okP_len hok
  clear hR hok
  refine callsIn_of_wp_marks Try.func75 rfl trivial ?_ rfl
  simp only [Try.ntmps75, List.size_toArray, List.length_cons, List.length_nil, Nat.reduceAdd, Nat.reduceSub, Array.replicate_succ, Array.replicate_zero, List.push_toArray, List.append_toArray, List.nil_append, List.cons_append]
  gi_wp2
  refine ⟨by simp [Fence.wide], ?_⟩
  refine ((callsIn_wide.2 (iCorners _ _)).mono ?_)
  rintro e w' ⟨rfl, hw'⟩
  obtain ⟨w3, hw3⟩ : ∃ W, W = w' := ⟨_, rfl⟩
  rw [← hw3] at hw' ⊢
  have hsz : w3.heap.size = w.heap.size + 3 := by rw [hw']; simp
  have hb3 : Below w.heap.size w w3 := by
    rw [hw']
    exact (((Below.refl _ w).alloc (Nat.le_refl _) _).alloc (by simp) _).alloc (by simp; omega) _
  have y1 : w3.cell? ⟨w.heap.size + 1, 0, none⟩ = some (.int .i64 0) := by rw [hw']; simp [go_sem]
  have y2 : w3.cell? ⟨w.heap.size + 1 + 1, 0, none⟩ = some (.pointer (some ⟨A 0, 0, none⟩)) := by rw [hw']; simp [go_sem]
  have f1 : w3.frozen? ⟨w.heap.size + 1, 0, none⟩ = false := by rw [hw']; simp [go_sem]
  clear hw' hw3
  have hgive := corners_stops 8 (by decide) (w.heap.size + 1 + 1) n₀ A L (by omega) w3 (by omega) (by omega) y2 (HR.out.1.below (hb3.mono hn))
  gi_wp2
  refine wpIn_rangeFunc_ownF (F := Fence.wide) rfl (by decide) (gf := 119) (lb := #[.pointer (some ⟨w.heap.size + 1 + 1, 0, none⟩)]) rfl trivial (enters_of Try.func119 (by kernel_rfl) rfl) hgive
    (fun h k => h.t k) (Kp2.b (by omega) (by omega)) (Below.refl _ _) (fun _ => rfl)
    (fun pre W => W.cell? ⟨w.heap.size + 1, 0, none⟩ = some (.int .i64 (sumL (fun i => gapP (cy L i) (cy L (i + 1))) pre)) ∧ W.frozen? ⟨w.heap.size + 1, 0, none⟩ = false ∧ Hold w n₀ A L w3.heap.size W)
    (fun _ _ _ => False)
    (fun s W W' row hs hg hr => ⟨cell_kept hs.1 hg (fun r e => (hr r e).2), (frozen_kept hs.1 hg (fun r e => (hr r e).2)).trans hs.2.1, hs.2.2.own (by omega) hg hr⟩)
    (fun _ _ _ _ _ hs _ _ => hs)
    ⟨y1, f1, HR.out.1.below (hb3.mono hn), hb3, Nat.le_refl _⟩
    (fun x => { tmps := #[.agg #[.pointer (some ⟨A 0, 0, none⟩)], .pointer (some ⟨w.heap.size, 0, none⟩), .int .i64 0, .pointer (some ⟨w.heap.size + 1, 0, none⟩), .pointer (some ⟨A x, 0, none⟩), .agg #[.pointer (some ⟨A 0, 0, none⟩)], .func (.func 119) #[] #[.pointer (some ⟨w.heap.size + 1 + 1, 0, none⟩)], .pointer (some ⟨A x, 0, none⟩), undef, undef, undef, undef, undef, undef, undef, undef, undef, undef, undef, undef, undef, undef, undef], defers := [] }) ?assign ?body ?done ?stop
  case assign =>
    intro l x W K hK
    gi_wp2
    exact hK
  case body =>
    rintro l pre x W ⟨hc, hf, hH⟩ hlen
    gi_wp2
    have hv := okP_at HR.out.2
    have hsm := sumL_bd (f := fun i => gapP (cy L i) (cy L (i + 1))) (m := 20000) (fun i => gapP_bd' (hv i) (hv (i + 1))) pre
    have hm : (20000 : Int) * (pre.length : Int) ≤ 240000 := by omega
    have hcb := gapP_bd' (hv x) (hv (x + 1))
    have c1 := fun w => Lib.hid (iGapsP (hv x) (hv (x + 1)) w)
    obtain ⟨x0, x1, x2⟩ := hH.ring.ring.cells x
    obtain ⟨z0, z1, z2⟩ := hH.ring.ring.cells (x + 1)
    have l1 : A x < W.heap.size := by have := hH.ring.ring.lt x; have := hH.size; omega
    have l2 : A (x + 1) < W.heap.size := by have := hH.ring.ring.lt (x + 1); have := hH.size; omega
    have l3 : w.heap.size + 1 < W.heap.size := by have := hH.size; omega
    obtain ⟨s, hs⟩ : ∃ s, sumL (fun i => gapP (cy L i) (cy L (i + 1))) pre = s := ⟨_, rfl⟩
    rw [hs] at hc hsm
    obtain ⟨t, ht⟩ : ∃ t, gapP (cy L x) (cy L (x + 1)) = t := ⟨_, rfl⟩
    rw [ht] at hcb
    simp only [ht] at c1
    have hW3 := hH.size
    have HH := Lib.hid (And.intro hH (And.intro hs ht))
    clear hH hs hv ht
    (refine round_grows_tail 14 (by kernel_rfl) (by kernel_rfl) (by kernel_rfl) (fun ⟨_, _, h⟩ => h) ?_; simp only [List.take_succ_cons, List.take_zero, List.drop_succ_cons, List.drop_zero]; intro W_wg hWc_wg hWs_wg hWe_wg; (repeat (go_big_quiet_step ((go_at_call 41; with_reducible exact Ext.call ((c1 _).out))))); with_reducible refine wpQuiet_nil ?_; clear hWe_wg hWs_wg hWc_wg W_wg; intro wg hb_wg; obtain ⟨hc_wg, hf_wg⟩ := bcell hb_wg; (try simp only [World.size_drew, World.cell?_drew, World.frozen?_drew, World.heap_drewN, World.cell?_drewN, World.frozen?_drewN] at hc_wg hf_wg); have hs_wg := hb_wg.size; (try simp at hs_wg))
    go_wp2_with fail
    have hHg := HH.out.1.next (W' := wg) hn (by omega) (hb_wg.mono HH.out.1.size)
    exact ⟨(keeps_below hb_wg).trans (KeepsOthers.setCell _ _ _), Kp2.put hb_wg (by omega) (by omega) (by omega) (by omega) _,
      by rw [sumL_snoc, HH.out.2.1, HH.out.2.2]; exact World.cell?_setCell_same' _ _ _ (by rw [hc_wg _ _ l3, hc]; rfl), by rw [World.frozen?_setCell, hf_wg _ _ l3]; exact hf, hHg.put hn (by omega) _⟩
  case done =>
    rintro D ys W hD rfl ⟨hc, hf, hH⟩ hK
    gi_wp2
    refine ⟨by simp, .inl ⟨_, _, rfl, run_takeDeferred hK, ?_⟩⟩
    exact ⟨_, results_tmp rfl _ _ _, by rw [sumL_range]; rfl, hH.below.trans (below_put W D _ (by omega))⟩
  case stop =>
    rintro D c pre W _ _ h _
    exact h.elim
end Go.Proofs.Ytegcjdcinebleaa
