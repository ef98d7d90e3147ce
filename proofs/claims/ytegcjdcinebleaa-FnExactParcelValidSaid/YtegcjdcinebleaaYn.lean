/-
  What the program's polygons answer whose loops over the corners may be left early: where a point lies, convex or not.
-/
import Derived.Test.YtegcjdcinebleaaYl
namespace Go.Proofs.Ytegcjdcinebleaa
open Go.RowKit Go.Shelf Poly
set_option linter.unusedVariables false
attribute [local go_sem] Oper.semAt_some

set_option maxRecDepth 100000 in
set_option maxHeartbeats 4000000 in
theorem iConvexM {n₀ : Nat} {A : Nat → Nat} {L : List P2} {w : World} (hR : RingB n₀ A L w) (hn : n₀ ≤ w.heap.size) (hok : okP L = true) :
    Calls Try.prog 78 #[.agg #[.pointer (some ⟨A 0, 0, none⟩)]] w fun e w' => e = .returned (.bool (!(anyF (turnBad L) L.length))) ∧ Below w.heap.size w w' := by
  refine (callsIn_wide (n := 9)).1 ?_
  have c1 := fun w h h2 => Lib.hid (iArea (n₀ := n₀) (A := A) (L := L) (w := w) h h2 hok)
  have har := area_bd hok
  have HR := Lib.hid (And.intro hR hok)
  have hl := okP_len hok
  clear hR hok
  refine callsIn_of_wp_marks Try.func78 rfl trivial ?_ rfl
  simp only [Try.ntmps78, List.size_toArray, List.length_cons, List.length_nil, Nat.reduceAdd, Nat.reduceSub, Array.replicate_succ, Array.replicate_zero, List.push_toArray, List.append_toArray, List.nil_append, List.cons_append]
  gi_wp2
  refine ⟨by simp [Fence.wide], ?_⟩
  refine ((callsIn_wide.2 (c1 _ ?_ ?_).out).mono ?_)
  · exact HR.out.1.below (((Below.refl _ w).alloc hn _).alloc (by simp; omega) _)
  · simp; omega
  rintro e wa ⟨rfl, hba⟩
  obtain ⟨ar, hare⟩ : ∃ x, areaL L = x := ⟨_, rfl⟩
  rw [hare] at har ⊢
  have hsa := hba.size
  simp at hsa
  have r1 : wa.cell? ⟨w.heap.size + 1, 0, none⟩ = some (.bool false) := by rw [hba.cell (p := ⟨w.heap.size + 1, 0, none⟩) (by simp)]; simp [go_sem]
  have r2 : wa.frozen? ⟨w.heap.size + 1, 0, none⟩ = false := by rw [hba.frozen (p := ⟨w.heap.size + 1, 0, none⟩) (by simp)]; simp [go_sem]
  have r3 : wa.cell? ⟨w.heap.size, 0, none⟩ = some (.pointer (some ⟨A 0, 0, none⟩)) := by rw [hba.cell (p := ⟨w.heap.size, 0, none⟩) (by simp; omega)]; simp [go_sem]
  have hba0 : Below w.heap.size w wa := (((Below.refl _ w).alloc (Nat.le_refl _) _).alloc (by simp) _).trans (hba.mono (by simp; omega))
  clear hba c1
  have hz0 : w.heap.size < wa.heap.size := by omega
  have hz1 : w.heap.size + 1 < wa.heap.size := by omega
  gi_wp2
  refine ⟨by simp [Fence.wide], ?_⟩
  refine ((callsIn_wide.2 (iCorners _ _)).mono ?_)
  rintro e w' ⟨rfl, hw'⟩
  obtain ⟨w3, hw3⟩ : ∃ W, W = w' := ⟨_, rfl⟩
  rw [← hw3] at hw' ⊢
  have hsz : w3.heap.size = wa.heap.size + 2 := by rw [hw']; simp
  have hb3 : Below wa.heap.size wa w3 := by
    rw [hw']
    exact ((Below.refl _ wa).alloc (Nat.le_refl _) _).alloc (by simp) _
  have y1 : w3.cell? ⟨wa.heap.size, 0, none⟩ = some (.int .i64 ar) := by rw [hw']; simp [go_sem]
  have y2 : w3.cell? ⟨wa.heap.size + 1, 0, none⟩ = some (.pointer (some ⟨A 0, 0, none⟩)) := by rw [hw']; simp [go_sem]
  have q1 := (hb3.cell (p := ⟨w.heap.size + 1, 0, none⟩) (show w.heap.size + 1 < wa.heap.size by omega)).trans r1
  have q2 := (hb3.frozen (p := ⟨w.heap.size + 1, 0, none⟩) (show w.heap.size + 1 < wa.heap.size by omega)).trans r2
  have hb0 : Below w.heap.size w w3 := hba0.trans (hb3.mono (by omega))
  clear hw' hw3 r1 r2 r3
  have hgive := corners_stops 8 (by decide) (wa.heap.size + 1) n₀ A L (by omega) w3 (by omega) (by omega) y2 (HR.out.1.below (hb0.mono hn))
  gi_wp2
  refine wpIn_rangeFunc_ownF (F := Fence.wide) rfl (by decide) (gf := 119) (lb := #[.pointer (some ⟨wa.heap.size + 1, 0, none⟩)]) rfl trivial (enters_of Try.func119 (by kernel_rfl) rfl) hgive
    (fun h k => h.t k) (Kp2.b (by omega) (by omega)) (Below.refl _ _) (fun _ => rfl)
    (fun pre W => W.cell? ⟨wa.heap.size, 0, none⟩ = some (.int .i64 ar) ∧ W.cell? ⟨w.heap.size + 1, 0, none⟩ = some (.bool false) ∧ W.frozen? ⟨w.heap.size + 1, 0, none⟩ = false ∧ (∀ x ∈ pre, turnBad L x = false) ∧ Hold w n₀ A L w3.heap.size W)
    (fun c pre W => c = .ret ∧ W.cell? ⟨w.heap.size + 1, 0, none⟩ = some (.bool false) ∧ (∃ x, turnBad L x = true) ∧ Hold w n₀ A L w3.heap.size W)
    (fun s W W' row hs hg hr => ⟨cell_kept hs.1 hg (fun r e => (hr r e).2), cell_kept hs.2.1 hg (fun r e => (hr r e).2), (frozen_kept hs.2.1 hg (fun r e => (hr r e).2)).trans hs.2.2.1, hs.2.2.2.1, hs.2.2.2.2.own (by omega) hg hr⟩)
    (fun c s W W' row hs hg hr => ⟨hs.1, cell_kept hs.2.1 hg (fun r e => (hr r e).2), hs.2.2.1, hs.2.2.2.own (by omega) hg hr⟩)
    ⟨y1, q1, q2, by simp, HR.out.1.below (hb0.mono hn), hb0, Nat.le_refl _⟩
    (fun x => { tmps := #[.agg #[.pointer (some ⟨A 0, 0, none⟩)], .pointer (some ⟨w.heap.size, 0, none⟩), .pointer (some ⟨w.heap.size + 1, 0, none⟩), .pointer (some ⟨wa.heap.size, 0, none⟩), .pointer (some ⟨A x, 0, none⟩), .agg #[.pointer (some ⟨A 0, 0, none⟩)], .int .i64 ar, .agg #[.pointer (some ⟨A 0, 0, none⟩)], .func (.func 119) #[] #[.pointer (some ⟨wa.heap.size + 1, 0, none⟩)], .pointer (some ⟨A x, 0, none⟩), undef, undef, undef, undef, undef, undef, undef, undef, undef, undef, undef, undef, undef, undef, undef], defers := [] }) ?assign ?body ?done ?stop
  case assign =>
    intro l x W K hK
    gi_wp2
    exact hK
  case body =>
    rintro l pre x W ⟨hc, hd, hf, hp, hH⟩ hlen
    gi_wp2
    have hv := okP_at HR.out.2
    have hrr := hH.ring.ring
    have hW3 := hH.size
    have hnW : n₀ ≤ W.heap.size := by omega
    have c1 := fun (V : World) (hc : ∀ b o, V.cell? ⟨b, o, none⟩ = W.cell? ⟨b, o, none⟩) (hs : V.heap.size = W.heap.size) (d : Ext V) => Lib.hid (iTurn (hrr.ext hnW hc hs d).1 (hrr.ext hnW hc hs d).2 hv x (hv (x + 2)))
    obtain ⟨x0, x1, x2⟩ := hrr.cells x
    obtain ⟨z0, z1, z2⟩ := hrr.cells (x + 1)
    obtain ⟨u0, u1, u2⟩ := hrr.cells (x + 2)
    have l1 : A x < W.heap.size := by have := hrr.lt x; omega
    have l2 : A (x + 1) < W.heap.size := by have := hrr.lt (x + 1); omega
    have l3 : A (x + 2) < W.heap.size := by have := hrr.lt (x + 2); omega
    have l4 : wa.heap.size < W.heap.size := by omega
    have l5 : w.heap.size + 1 < W.heap.size := by omega
    have hsd := sd_bd (cy L x) (cy L (x + 1)) (cy L (x + 2))
    have htb : turnBad L x = decide (sd (cy L x) (cy L (x + 1)) (cy L (x + 2)) * ar < 0) := by unfold turnBad; rw [hare]
    obtain ⟨s, hs⟩ : ∃ s, sd (cy L x) (cy L (x + 1)) (cy L (x + 2)) = s := ⟨_, rfl⟩
    rw [hs] at hsd htb
    simp only [hs] at c1
    have hm := Pt.mul_bd hsd.1 hsd.2 har.1 har.2
    have HH := Lib.hid (And.intro hH (And.intro htb hp))
    clear hH hs hv hrr htb hp
    by_cases hneg : s * ar < 0
    · (refine round_grows (by kernel_rfl) (by kernel_rfl) (by kernel_rfl) (fun ⟨_, _, h⟩ => h) ?_; intro W_wg hWc_wg hWs_wg hWe_wg; (repeat (go_big_quiet_step ((go_at_call 110; with_reducible exact Ext.call ((c1 _ hWc_wg hWs_wg _).out))))); with_reducible refine wpQuiet_nil ?_; clear hWe_wg hWs_wg hWc_wg W_wg; intro wg hb_wg; obtain ⟨hc_wg, hf_wg⟩ := bcell hb_wg; (try simp only [World.size_drew, World.cell?_drew, World.frozen?_drew, World.heap_drewN, World.cell?_drewN, World.frozen?_drewN] at hc_wg hf_wg); have hs_wg := hb_wg.size; (try simp at hs_wg))
      have q1 : wg.cell? ⟨w.heap.size + 1, 0, none⟩ = some (.bool false) := by rw [hc_wg _ _ l5]; exact hd
      have q2 : wg.frozen? ⟨w.heap.size + 1, 0, none⟩ = false := by rw [hf_wg _ _ l5]; exact hf
      gi_wp2
      have hHg := HH.out.1.next (W' := wg) hn (by omega) (hb_wg.mono HH.out.1.size)
      exact ⟨(keeps_below hb_wg).trans (KeepsOthers.setCell _ _ _), rfl, World.cell?_setCell_same' _ _ _ (by rw [q1]; rfl), ⟨x, by rw [HH.out.2.1]; exact decide_eq_true hneg⟩, hHg.put hn (by omega) _⟩
    · (refine round_grows (by kernel_rfl) (by kernel_rfl) (by kernel_rfl) (fun ⟨_, _, h⟩ => h) ?_; intro W_wg hWc_wg hWs_wg hWe_wg; (repeat (go_big_quiet_step ((go_at_call 110; with_reducible exact Ext.call ((c1 _ hWc_wg hWs_wg _).out))))); with_reducible refine wpQuiet_nil ?_; clear hWe_wg hWs_wg hWc_wg W_wg; intro wg hb_wg; obtain ⟨hc_wg, hf_wg⟩ := bcell hb_wg; (try simp only [World.size_drew, World.cell?_drew, World.frozen?_drew, World.heap_drewN, World.cell?_drewN, World.frozen?_drewN] at hc_wg hf_wg); have hs_wg := hb_wg.size; (try simp at hs_wg))
      gi_wp2
      have hHg := HH.out.1.next (W' := wg) hn (by omega) (hb_wg.mono HH.out.1.size)
      exact ⟨keeps_below hb_wg, Kp2.of hb_wg (by omega) (by omega), by rw [hc_wg _ _ l4]; exact hc, by rw [hc_wg _ _ l5]; exact hd, by rw [hf_wg _ _ l5]; exact hf,
        fun y hy => (List.mem_append.1 hy).elim (HH.out.2.2 y) (fun e => by simp at e; subst e; rw [HH.out.2.1]; exact decide_eq_false (by omega)), by rw [← hsz]; exact hHg⟩
  case done =>
    rintro D ys W hD rfl ⟨hc, hd, hf, hp, hH⟩ hK
    gi_wp2
    have hK' := (KeepsOthers.setCell W ⟨w.heap.size + 1, 0, none⟩ (.bool true)).same D _ hK rfl
    refine ⟨by simp, .inl ⟨_, _, rfl, run_takeDeferred hK', ?_⟩⟩
    have hc5 := cell_kept (World.cell?_setCell_same' W ⟨w.heap.size + 1, 0, none⟩ (.bool true) (by rw [hd]; rfl)) (grownBy_putObj' _ D (.deferred none)) (fun r e => by cases e; exact ⟨_, hK', rfl⟩)
    refine ⟨.bool true, ?_, by rw [anyF_false (fun i hi => hp i (List.mem_range.2 hi))]; rfl, (hH.below.setCell (p := ⟨w.heap.size + 1, 0, none⟩) (by simp) _).trans (below_put _ D _ (by omega))⟩
    simp [results, Try.results78, go_sem, hc5]
  case stop =>
    rintro D c pre W hD hpre ⟨rfl, hd, ⟨x, hx⟩, hH⟩ hK
    gi_wp2
    refine ⟨by simp, .inl ⟨_, _, rfl, run_takeDeferred hK, ?_⟩⟩
    have hc5 := cell_kept hd (grownBy_putObj' _ D (.deferred none)) (fun r e => by cases e; exact ⟨_, hK, rfl⟩)
    refine ⟨.bool false, ?_, ?_, hH.below.trans (below_put _ D _ (by omega))⟩
    · simp [results, Try.results78, go_sem, hc5]
    · rw [anyF_of (i := x % L.length) (Nat.mod_lt _ (by omega)) (by rw [← hx]; unfold turnBad; rw [cy_mod, show cy L (x % L.length + 1) = cy L (x + 1) by unfold cy; rw [Nat.mod_add_mod], show cy L (x % L.length + 2) = cy L (x + 2) by unfold cy; rw [Nat.mod_add_mod]])]; rfl
end Go.Proofs.Ytegcjdcinebleaa
