/-
  Where a point lies, by the program.
-/
import Derived.Test.YtegcjdcinebleaaYl
namespace Go.Proofs.Ytegcjdcinebleaa
open Go.RowKit Go.Shelf Poly
set_option linter.unusedVariables false
attribute [local go_sem] Oper.semAt_some

/-- what is found so far -/
def fnd (L : List P2) (p : P2) (pre : List Nat) : Int := if oddP (fun i => east (cy L i) (cy L (i + 1)) p) pre then 1 else -1
theorem fnd_snoc (L : List P2) (p : P2) (pre : List Nat) (x : Nat) : fnd L p (pre ++ [x]) = if east (cy L x) (cy L (x + 1)) p then -(fnd L p pre) else fnd L p pre := by
  unfold fnd; rw [oddP_snoc]
  cases oddP (fun i => east (cy L i) (cy L (i + 1)) p) pre <;> cases east (cy L x) (cy L (x + 1)) p <;> simp
theorem fnd_bd (L : List P2) (p : P2) (pre : List Nat) : fnd L p pre = 1 ∨ fnd L p pre = -1 := by unfold fnd; split <;> simp
set_option maxRecDepth 100000 in
set_option maxHeartbeats 4000000 in
theorem iLocate {n₀ : Nat} {A : Nat → Nat} {L : List P2} {w : World} (hR : RingB n₀ A L w) (hn : n₀ ≤ w.heap.size) (hok : okP L = true) {p : P2} (hpv : pvP p = true) :
    Calls Try.prog 76 #[.agg #[.pointer (some ⟨A 0, 0, none⟩)], .agg #[.int .i64 p.1, .int .i64 p.2]] w fun e w' => e = .returned (.int .i64 (placeL L p)) ∧ Below w.heap.size w w' := by
  refine (callsIn_wide (n := 9)).1 ?_
  have HR := Lib.hid (And.intro hR (And.intro hok hpv))
  have hl := okP_len hok
  clear hR hok hpv
  refine callsIn_of_wp_marks Try.func76 rfl trivial ?_ rfl
  simp only [Try.ntmps76, List.size_toArray, List.length_cons, List.length_nil, Nat.reduceAdd, Nat.reduceSub, Array.replicate_succ, Array.replicate_zero, List.push_toArray, List.append_toArray, List.nil_append, List.cons_append]
  gi_wp2
  refine ⟨by simp [Fence.wide], ?_⟩
  refine ((callsIn_wide.2 (iCorners _ _)).mono ?_)
  rintro e w' ⟨rfl, hw'⟩
  obtain ⟨w3, hw3⟩ : ∃ W, W = w' := ⟨_, rfl⟩
  rw [← hw3] at hw' ⊢
  have hsz : w3.heap.size = w.heap.size + 5 := by rw [hw']; simp
  have hb3 : Below w.heap.size w w3 := by
    rw [hw']
    exact (((((Below.refl _ w).alloc (Nat.le_refl _) _).alloc (by simp) _).alloc (by simp; omega) _).alloc (by simp; omega) _).alloc (by simp; omega) _
  have p1 : w3.cell? ⟨w.heap.size + 1, 0, none⟩ = some (.int .i64 p.1) := by rw [hw']; simp [go_sem]
  have p2 : w3.cell? ⟨w.heap.size + 1, 1, none⟩ = some (.int .i64 p.2) := by rw [hw']; simp [go_sem]
  have q1 : w3.cell? ⟨w.heap.size + 1 + 1, 0, none⟩ = some (.int .i64 0) := by rw [hw']; simp [go_sem]
  have q2 : w3.frozen? ⟨w.heap.size + 1 + 1, 0, none⟩ = false := by rw [hw']; simp [go_sem]
  have y1 : w3.cell? ⟨w.heap.size + 1 + 1 + 1, 0, none⟩ = some (.int .i64 (-1)) := by rw [hw']; simp [go_sem]
  have f1 : w3.frozen? ⟨w.heap.size + 1 + 1 + 1, 0, none⟩ = false := by rw [hw']; simp [go_sem]
  have y2 : w3.cell? ⟨w.heap.size + 1 + 1 + 1 + 1, 0, none⟩ = some (.pointer (some ⟨A 0, 0, none⟩)) := by rw [hw']; simp [go_sem]
  clear hw' hw3
  have hgive := corners_stops 8 (by decide) (w.heap.size + 1 + 1 + 1 + 1) n₀ A L (by omega) w3 (by omega) (by omega) y2 (HR.out.1.below (hb3.mono hn))
  gi_wp2
  refine wpIn_rangeFunc_ownF (F := Fence.wide) rfl (by decide) (gf := 119) (lb := #[.pointer (some ⟨w.heap.size + 1 + 1 + 1 + 1, 0, none⟩)]) rfl trivial (enters_of Try.func119 (by kernel_rfl) rfl) hgive
    (fun h k => h.t k) (Kp2.b (by omega) (by omega)) (Below.refl _ _) (fun _ => rfl)
    (fun pre W => W.cell? ⟨w.heap.size + 1 + 1 + 1, 0, none⟩ = some (.int .i64 (fnd L p pre)) ∧ W.frozen? ⟨w.heap.size + 1 + 1 + 1, 0, none⟩ = false ∧ W.cell? ⟨w.heap.size + 1 + 1, 0, none⟩ = some (.int .i64 0) ∧ W.frozen? ⟨w.heap.size + 1 + 1, 0, none⟩ = false ∧ (W.cell? ⟨w.heap.size + 1, 0, none⟩ = some (.int .i64 p.1) ∧ W.cell? ⟨w.heap.size + 1, 1, none⟩ = some (.int .i64 p.2)) ∧ (∀ x ∈ pre, onP (cy L x) (cy L (x + 1)) p = false) ∧ Hold w n₀ A L w3.heap.size W)
    (fun c pre W => c = .ret ∧ W.cell? ⟨w.heap.size + 1 + 1, 0, none⟩ = some (.int .i64 0) ∧ (∃ x, onP (cy L x) (cy L (x + 1)) p = true) ∧ Hold w n₀ A L w3.heap.size W)
    (fun s W W' row hs hg hr => ⟨cell_kept hs.1 hg (fun r e => (hr r e).2), (frozen_kept hs.1 hg (fun r e => (hr r e).2)).trans hs.2.1, cell_kept hs.2.2.1 hg (fun r e => (hr r e).2), (frozen_kept hs.2.2.1 hg (fun r e => (hr r e).2)).trans hs.2.2.2.1, ⟨cell_kept hs.2.2.2.2.1.1 hg (fun r e => (hr r e).2), cell_kept hs.2.2.2.2.1.2 hg (fun r e => (hr r e).2)⟩, hs.2.2.2.2.2.1, hs.2.2.2.2.2.2.own (by omega) hg hr⟩)
    (fun c s W W' row hs hg hr => ⟨hs.1, cell_kept hs.2.1 hg (fun r e => (hr r e).2), hs.2.2.1, hs.2.2.2.own (by omega) hg hr⟩)
    ⟨y1, f1, q1, q2, ⟨p1, p2⟩, by simp, HR.out.1.below (hb3.mono hn), hb3, Nat.le_refl _⟩
    (fun x => { tmps := #[.agg #[.pointer (some ⟨A 0, 0, none⟩)], .agg #[.int .i64 p.1, .int .i64 p.2], .pointer (some ⟨w.heap.size, 0, none⟩), .pointer (some ⟨w.heap.size + 1, 0, none⟩), .pointer (some ⟨w.heap.size + 1 + 1, 0, none⟩), .pointer (some ⟨w.heap.size + 1 + 1 + 1, 0, none⟩), .pointer (some ⟨A x, 0, none⟩), .agg #[.pointer (some ⟨A 0, 0, none⟩)], .func (.func 119) #[] #[.pointer (some ⟨w.heap.size + 1 + 1 + 1 + 1, 0, none⟩)], .pointer (some ⟨A x, 0, none⟩), undef, undef, undef, undef, undef, undef, undef, undef, undef], defers := [] }) ?assign ?body ?done ?stop
  case assign =>
    intro l x W K hK
    gi_wp2
    exact hK
  case body =>
    rintro l pre x W ⟨hc, hf, hd, hdf, ⟨hp1, hp2⟩, hp, hH⟩ hlen
    have hv := okP_at HR.out.2.1
    have hrr := hH.ring
    have hW3 := hH.size
    have hnW : n₀ ≤ W.heap.size := by omega
    have c1 := Lib.hid (iCarries (w := W) hrr.ring hnW hv x HR.out.2.2)
    have c2 := fun w h h2 => Lib.hid (iEast (n₀ := n₀) (A := A) (L := L) (w := w) h h2 hv x HR.out.2.2)
    obtain ⟨b1, hb1⟩ : ∃ b, onP (cy L x) (cy L (x + 1)) p = b := ⟨_, rfl⟩
    obtain ⟨b2, hb2⟩ : ∃ b, east (cy L x) (cy L (x + 1)) p = b := ⟨_, rfl⟩
    have hfs := fnd_snoc L p pre x
    rw [hb1] at c1
    simp only [hb2] at c2 hfs
    have l1 : w.heap.size + 1 < W.heap.size := by omega
    have l2 : w.heap.size + 1 + 1 < W.heap.size := by omega
    have l3 : w.heap.size + 1 + 1 + 1 < W.heap.size := by omega
    have hfb := fnd_bd L p pre
    obtain ⟨s, hs⟩ : ∃ s, fnd L p pre = s := ⟨_, rfl⟩
    rw [hs] at hc hfs hfb
    have HH := Lib.hid (And.intro hH (And.intro hp (And.intro hb1 hfs)))
    clear hH hs hv hrr hp hb1 hb2 hfs
    gi_wp2
    refine ⟨by simp [Fence.wide], ?_⟩
    refine (CallsIn.inRound l (callsIn_wide.2 c1.out)).mono ?_
    rintro e wb ⟨rfl, hbb⟩
    have hsb := hbb.size
    have hc' := (hbb.cell (p := ⟨w.heap.size + 1 + 1 + 1, 0, none⟩) l3).trans hc
    have hf' := (hbb.frozen (p := ⟨w.heap.size + 1 + 1 + 1, 0, none⟩) l3).trans hf
    have hd' := (hbb.cell (p := ⟨w.heap.size + 1 + 1, 0, none⟩) l2).trans hd
    have hdf' := (hbb.frozen (p := ⟨w.heap.size + 1 + 1, 0, none⟩) l2).trans hdf
    have hp1' := (hbb.cell (p := ⟨w.heap.size + 1, 0, none⟩) l1).trans hp1
    have hp2' := (hbb.cell (p := ⟨w.heap.size + 1, 1, none⟩) l1).trans hp2
    have hHb := HH.out.1.next (W' := wb) hn (by omega) (hbb.mono hW3)
    clear hc hf hd hdf hp1 hp2
    have l1 : w.heap.size + 1 < wb.heap.size := by omega
    have l2 : w.heap.size + 1 + 1 < wb.heap.size := by omega
    have l3 : w.heap.size + 1 + 1 + 1 < wb.heap.size := by omega
    cases b1
    · have HB := Lib.hid (And.intro hHb hbb)
      clear hHb hbb
      gi_wp2
      refine ⟨by simp [Fence.wide], ?_⟩
      refine (CallsIn.inRound l (callsIn_wide.2 (c2 _ HB.out.1.ring.ring (by omega)).out)).mono ?_
      rintro e wc ⟨rfl, hbc⟩
      have hsc := hbc.size
      have hc2 := (hbc.cell (p := ⟨w.heap.size + 1 + 1 + 1, 0, none⟩) l3).trans hc'
      have hf2 := (hbc.frozen (p := ⟨w.heap.size + 1 + 1 + 1, 0, none⟩) l3).trans hf'
      have hd2 := (hbc.cell (p := ⟨w.heap.size + 1 + 1, 0, none⟩) l2).trans hd'
      have hdf2 := (hbc.frozen (p := ⟨w.heap.size + 1 + 1, 0, none⟩) l2).trans hdf'
      have hp12 := (hbc.cell (p := ⟨w.heap.size + 1, 0, none⟩) l1).trans hp1'
      have hp22 := (hbc.cell (p := ⟨w.heap.size + 1, 1, none⟩) l1).trans hp2'
      have hHc := HB.out.1.next (W' := wc) hn (by omega) (hbc.mono (by omega))
      have hbW : Below W.heap.size W wc := HB.out.2.trans (hbc.mono (by omega))
      clear hc' hf' hd' hdf' hp1' hp2' hbc
      have hnp : ∀ y ∈ pre ++ [x], onP (cy L y) (cy L (y + 1)) p = false := fun y hy => (List.mem_append.1 hy).elim (HH.out.2.1 y) (fun e => by simp at e; subst e; exact HH.out.2.2.1)
      have HC := Lib.hid (And.intro hHc (And.intro hbW hnp))
      clear hHc hbW hnp
      cases b2
      · gi_wp2
        exact ⟨keeps_below HC.out.2.1, Kp2.of HC.out.2.1 (by omega) (by omega), by rw [HH.out.2.2.2]; exact hc2, hf2, hd2, hdf2, ⟨hp12, hp22⟩, HC.out.2.2, HC.out.1⟩
      · have hneg : IntKind.i64.wrap (-s) = -s := by rw [IntKind.wrap_i64]; rcases hfb with h | h <;> rw [h] <;> decide
        gi_wp2
        exact ⟨(keeps_below HC.out.2.1).trans (KeepsOthers.setCell _ _ _), Kp2.put HC.out.2.1 (by omega) (by omega) (by omega) (by omega) _,
          by rw [HH.out.2.2.2]; simpa using World.cell?_setCell_same' _ _ _ (by rw [hc2]; rfl), by rw [World.frozen?_setCell]; exact hf2,
          by rw [World.cell?_setCell_other _ _ _ _ (by simp)]; exact hd2, by rw [World.frozen?_setCell]; exact hdf2, ⟨by rw [World.cell?_setCell_other _ _ _ _ (by simp)]; exact hp12, by rw [World.cell?_setCell_other _ _ _ _ (by simp)]; exact hp22⟩, HC.out.2.2, HC.out.1.put hn (by omega) _⟩
    · have HB := Lib.hid (And.intro hHb hbb)
      clear hHb hbb
      gi_wp2
      exact ⟨(keeps_below HB.out.2).trans (KeepsOthers.setCell _ _ _), rfl, World.cell?_setCell_same' _ _ _ (by rw [hd']; rfl), ⟨x, HH.out.2.2.1⟩, HB.out.1.put hn (by omega) _⟩
  case done =>
    rintro D ys W hD rfl ⟨hc, hf, hd, hdf, ⟨hp1, hp2⟩, hp, hH⟩ hK
    have hW3 := hH.size
    gi_wp2
    have hK' := (KeepsOthers.setCell W ⟨w.heap.size + 1 + 1, 0, none⟩ (.int .i64 (fnd L p (List.range L.length)))).same D _ hK rfl
    refine ⟨by simp, .inl ⟨_, _, rfl, run_takeDeferred hK', ?_⟩⟩
    have hc5 := cell_kept (World.cell?_setCell_same' W ⟨w.heap.size + 1 + 1, 0, none⟩ (.int .i64 (fnd L p (List.range L.length))) (by rw [hd]; rfl)) (grownBy_putObj' _ D (.deferred none)) (fun r e => by cases e; exact ⟨_, hK', rfl⟩)
    refine ⟨.int .i64 (fnd L p (List.range L.length)), ?_, ?_, (hH.below.setCell (p := ⟨w.heap.size + 1 + 1, 0, none⟩) (by simp; omega) _).trans (below_put _ D _ (by omega))⟩
    · simp [results, Try.results76, go_sem, hc5]
    · have hno : onL L p = false := anyF_false (fun i hi => hp i (List.mem_range.2 hi))
      unfold placeL fnd oddL
      rw [hno, oddP_range]
      rfl
  case stop =>
    rintro D c pre W hD hpre ⟨rfl, hd, ⟨x, hx⟩, hH⟩ hK
    gi_wp2
    refine ⟨by simp, .inl ⟨_, _, rfl, run_takeDeferred hK, ?_⟩⟩
    have hc5 := cell_kept hd (grownBy_putObj' _ D (.deferred none)) (fun r e => by cases e; exact ⟨_, hK, rfl⟩)
    refine ⟨.int .i64 0, ?_, ?_, hH.below.trans (below_put _ D _ (by omega))⟩
    · simp [results, Try.results76, go_sem, hc5]
    · have : onL L p = true := anyF_of (i := x % L.length) (Nat.mod_lt _ (by omega)) (by rw [← hx]; rw [cy_mod, show cy L (x % L.length + 1) = cy L (x + 1) by unfold cy; rw [Nat.mod_add_mod]])
      unfold placeL; rw [this]; rfl
end Go.Proofs.Ytegcjdcinebleaa
