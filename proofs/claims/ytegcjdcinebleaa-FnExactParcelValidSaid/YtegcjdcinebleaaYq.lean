/-
  Whether a polygon is simple, by the program.
-/
import Derived.Test.YtegcjdcinebleaaYl
namespace Go.Proofs.Ytegcjdcinebleaa
open Go.RowKit Go.Shelf Poly
set_option linter.unusedVariables false
attribute [local go_sem] Oper.semAt_some

open Classical in
/-- how many corners are still to come, the first one last -/
noncomputable def restN (A : Nat → Nat) (n : Nat) (v : Value) : Nat :=
  if h : ∃ k, (0 < k ∧ k ≤ n) ∧ v = .pointer (some ⟨A k, 0, none⟩) then n - Classical.choose h else 0
theorem restN_eq {n₀ : Nat} {A : Nat → Nat} {L : List P2} {w : World} (h : Ring n₀ A L w) {k : Nat} (h0 : 0 < k) (hk : k ≤ L.length) : restN A L.length (.pointer (some ⟨A k, 0, none⟩)) = L.length - k := by
  have hex : ∃ j, (0 < j ∧ j ≤ L.length) ∧ Value.pointer (some ⟨A k, 0, none⟩) = .pointer (some ⟨A j, 0, none⟩) := ⟨k, ⟨h0, hk⟩, rfl⟩
  unfold restN
  rw [dif_pos hex]
  obtain ⟨⟨h1, h2⟩, h3⟩ := Classical.choose_spec hex
  have e : A k = A (Classical.choose hex) := by simpa using h3
  have := h.inj _ _ e
  generalize Classical.choose hex = j at *
  have mm : ∀ i, 0 < i → i ≤ L.length → i % L.length = if i = L.length then 0 else i := fun i h0 hi => by
    by_cases e : i = L.length
    · rw [if_pos e, e, Nat.mod_self]
    · rw [if_neg e, Nat.mod_eq_of_lt (by omega)]
  have m1 := mm k h0 hk
  have m2 := mm j h1 h2
  rw [m1, m2] at this
  split at this <;> split at this <;> omega
set_option maxRecDepth 100000 in
set_option maxHeartbeats 4000000 in
theorem iSimple {n₀ : Nat} {A : Nat → Nat} {L : List P2} {w : World} (hR : RingB n₀ A L w) (hn : n₀ ≤ w.heap.size) (hok : okP L = true) :
    Calls Try.prog 102 #[.agg #[.pointer (some ⟨A 0, 0, none⟩)]] w fun e w' => e = .returned (.bool (simple L)) ∧ Below w.heap.size w w' := by
  refine (callsIn_wide (n := 9)).1 ?_
  have HR := Lib.hid (And.intro hR hok)
  have hl := okP_len hok
  clear hR hok
  refine callsIn_of_wp_marks Try.func102 rfl trivial ?_ rfl
  simp only [Try.ntmps102, List.size_toArray, List.length_cons, List.length_nil, Nat.reduceAdd, Nat.reduceSub, Array.replicate_succ, Array.replicate_zero, List.push_toArray, List.append_toArray, List.nil_append, List.cons_append]
  gi_wp2
  refine ⟨by simp [Fence.wide], ?_⟩
  refine ((callsIn_wide.2 (iCorners _ _)).mono ?_)
  rintro e w' ⟨rfl, hw'⟩
  obtain ⟨w3, hw3⟩ : ∃ W, W = w' := ⟨_, rfl⟩
  rw [← hw3] at hw' ⊢
  have hsz : w3.heap.size = w.heap.size + 3 := by rw [hw']; simp
  have hb3 : Below w.heap.size w w3 := by
    rw [hw']
    exact (((Below.refl _ w).alloc (Nat.le_refl _) _).alloc (by simp) _).alloc (by simp; omega) _
  have y0 : w3.cell? ⟨w.heap.size, 0, none⟩ = some (.pointer (some ⟨A 0, 0, none⟩)) := by rw [hw']; simp [go_sem]
  have q1 : w3.cell? ⟨w.heap.size + 1, 0, none⟩ = some (.bool false) := by rw [hw']; simp [go_sem]
  have q2 : w3.frozen? ⟨w.heap.size + 1, 0, none⟩ = false := by rw [hw']; simp [go_sem]
  have y2 : w3.cell? ⟨w.heap.size + 1 + 1, 0, none⟩ = some (.pointer (some ⟨A 0, 0, none⟩)) := by rw [hw']; simp [go_sem]
  clear hw' hw3
  have hgive := corners_stops 8 (by decide) (w.heap.size + 1 + 1) n₀ A L (by omega) w3 (by omega) (by omega) y2 (HR.out.1.below (hb3.mono hn))
  gi_wp2
  refine wpIn_rangeFunc_ownF (F := Fence.wide) rfl (by decide) (gf := 119) (lb := #[.pointer (some ⟨w.heap.size + 1 + 1, 0, none⟩)]) rfl trivial (enters_of Try.func119 (by kernel_rfl) rfl) hgive
    (fun h k => h.t k) (Kp2.b (by omega) (by omega)) (Below.refl _ _) (fun _ => rfl)
    (fun pre W => W.cell? ⟨w.heap.size, 0, none⟩ = some (.pointer (some ⟨A 0, 0, none⟩)) ∧ W.cell? ⟨w.heap.size + 1, 0, none⟩ = some (.bool false) ∧ W.frozen? ⟨w.heap.size + 1, 0, none⟩ = false ∧ (∀ x ∈ pre, ∀ k, x % L.length < k → k < L.length → clash L (x % L.length) k = false) ∧ Hold w n₀ A L w3.heap.size W)
    (fun c pre W => c = .ret ∧ W.cell? ⟨w.heap.size + 1, 0, none⟩ = some (.bool false) ∧ (∃ i k, i < k ∧ k < L.length ∧ clash L i k = true) ∧ Hold w n₀ A L w3.heap.size W)
    (fun s W W' row hs hg hr => ⟨cell_kept hs.1 hg (fun r e => (hr r e).2), cell_kept hs.2.1 hg (fun r e => (hr r e).2), (frozen_kept hs.2.1 hg (fun r e => (hr r e).2)).trans hs.2.2.1, hs.2.2.2.1, hs.2.2.2.2.own (by omega) hg hr⟩)
    (fun c s W W' row hs hg hr => ⟨hs.1, cell_kept hs.2.1 hg (fun r e => (hr r e).2), hs.2.2.1, hs.2.2.2.own (by omega) hg hr⟩)
    ⟨y0, q1, q2, by simp, HR.out.1.below (hb3.mono hn), hb3, Nat.le_refl _⟩
    (fun x => { tmps := #[.agg #[.pointer (some ⟨A 0, 0, none⟩)], .pointer (some ⟨w.heap.size, 0, none⟩), .pointer (some ⟨w.heap.size + 1, 0, none⟩), .pointer (some ⟨A x, 0, none⟩), undef, .agg #[.pointer (some ⟨A 0, 0, none⟩)], .func (.func 119) #[] #[.pointer (some ⟨w.heap.size + 1 + 1, 0, none⟩)], .pointer (some ⟨A x, 0, none⟩), undef, undef, undef, undef, undef, undef, undef, undef, undef, undef, undef, undef, undef, undef, undef], defers := [] }) ?assign ?body ?done ?stop
  case assign =>
    intro l x W K hK
    gi_wp2
    exact hK
  case body =>
    rintro l pre x W ⟨hc, hd, hdf, hp, hH⟩ hlen
    have hv := okP_at HR.out.2
    have hW3 := hH.size
    obtain ⟨y, hy⟩ : ∃ y, x % L.length = y := ⟨_, rfl⟩
    have hyl : y < L.length := by rw [← hy]; exact Nat.mod_lt _ (by omega)
    have hAx : A x = A y := by rw [← hy]; exact (hH.ring.ring.mod x).symm
    obtain ⟨x0, x1, x2⟩ := hH.ring.ring.cells y
    have l1 : A y < W.heap.size := by have := hH.ring.ring.lt y; omega
    have HH := Lib.hid (And.intro hH (And.intro hp hy))
    rw [hAx]
    clear hH hp hy hAx
    gi_wp2
    gi_loopw [4] (fun d wr => ∃ k : Nat, y < k ∧ k ≤ L.length ∧ d = .pointer (some ⟨A k, 0, none⟩) ∧ (∀ j, y < j → j < k → clash L y j = false) ∧ Below W.heap.size W wr) (fun d _ => restN A L.length d)
    case atStart => exact ⟨y + 1, by omega, by omega, rfl, fun j h1 h2 => by omega, Below.refl _ _⟩
    case round =>
      obtain ⟨k, hyk, hkl, rfl, hcl, hb⟩ := hrel
      have hbs := hb.size
      have hRk : RingB n₀ A L wr := HH.out.1.ring.below (hb.mono (by omega))
      have hc' := (hb.cell (p := ⟨w.heap.size, 0, none⟩) (show w.heap.size < W.heap.size by omega)).trans hc
      have hd' := (hb.cell (p := ⟨w.heap.size + 1, 0, none⟩) (show w.heap.size + 1 < W.heap.size by omega)).trans hd
      have hdf' := (hb.frozen (p := ⟨w.heap.size + 1, 0, none⟩) (show w.heap.size + 1 < W.heap.size by omega)).trans hdf
      have hne := fun b => hRk.neq k 0 (b := b)
      rw [Nat.zero_mod] at hne
      by_cases hlast : k = L.length
      · have hne' := hne false (by rw [hlast, Nat.mod_self]; rfl)
        have HK := Lib.hid (And.intro hlast (And.intro hb hcl))
        clear hne hlast hRk hcl hb
        gi_wp2
        have hHr := HH.out.1.next (W' := wr) hn (by omega) (HK.out.2.1.mono hW3)
        exact ⟨keeps_below HK.out.2.1, Kp2.of HK.out.2.1 (by omega) (by omega), hc', hd', hdf', fun z hz j h1 h2 => (List.mem_append.1 hz).elim (fun h => HH.out.2.1 z h j h1 h2) (fun e => by
          simp at e
          subst e
          rw [HH.out.2.2] at h1 ⊢
          exact HK.out.2.2 j h1 (by have := HK.out.1; omega)), hHr⟩
      · have hne' := hne true (by rw [Nat.mod_eq_of_lt (show k < L.length by omega), decide_eq_false (by omega)]; rfl)
        have hkl' : k < L.length := by omega
        have hnr : n₀ ≤ wr.heap.size := by omega
        have cc := Lib.hid (iClash hRk hnr hv (by omega) hyk hkl')
        obtain ⟨z0, z1, z2⟩ := hRk.ring.cells k
        have l2 : A k < wr.heap.size := by have := hRk.ring.lt k; omega
        obtain ⟨b, hbb⟩ : ∃ b, clash L y k = b := ⟨_, rfl⟩
        rw [hbb] at cc
        have HK := Lib.hid (And.intro hbb (And.intro hb (And.intro hcl hRk)))
        clear hne hlast hRk hcl hb hbb
        gi_wp2
        refine ⟨by simp [Fence.wide], ?_⟩
        refine (CallsIn.inRound l (callsIn_wide.2 cc.out)).mono ?_
        rintro e wb ⟨rfl, hbb⟩
        have hsb := hbb.size
        have hd2 := (hbb.cell (p := ⟨w.heap.size + 1, 0, none⟩) (show w.heap.size + 1 < wr.heap.size by omega)).trans hd'
        have hdf2 := (hbb.frozen (p := ⟨w.heap.size + 1, 0, none⟩) (show w.heap.size + 1 < wr.heap.size by omega)).trans hdf'
        have hz2 := (hbb.cell (p := ⟨A k, 2, none⟩) l2).trans z2
        have hbW : Below W.heap.size W wb := HK.out.2.1.trans (hbb.mono hbs)
        have HW := Lib.hid (And.intro hbb hbW)
        clear hbb hbW
        cases b
        · gi_wp2
          go_roundw
          case rel => exact ⟨k + 1, by omega, by omega, rfl, fun j h1 h2 => by
            by_cases e : j = k
            · subst e; exact HK.out.1
            · exact HK.out.2.2.1 j h1 (by omega), HW.out.2⟩
          case measure => rw [restN_eq HK.out.2.2.2.ring (by omega) (by omega), restN_eq HK.out.2.2.2.ring (by omega) (by omega)]; omega
        · gi_wp2
          have hHb := HH.out.1.next (W' := wb) hn (by omega) (HW.out.2.mono hW3)
          exact ⟨(keeps_below HW.out.2).trans (KeepsOthers.setCell _ _ _), rfl, World.cell?_setCell_same' _ _ _ (by rw [hd2]; rfl), ⟨y, k, hyk, hkl', HK.out.1⟩, hHb.put hn (by omega) _⟩
  case done =>
    rintro D ys W hD rfl ⟨hc, hd, hf, hp, hH⟩ hK
    have hW3 := hH.size
    gi_wp2
    have hK' := (KeepsOthers.setCell W ⟨w.heap.size + 1, 0, none⟩ (.bool true)).same D _ hK rfl
    refine ⟨by simp, .inl ⟨_, _, rfl, run_takeDeferred hK', ?_⟩⟩
    have hc5 := cell_kept (World.cell?_setCell_same' W ⟨w.heap.size + 1, 0, none⟩ (.bool true) (by rw [hd]; rfl)) (grownBy_putObj' _ D (.deferred none)) (fun r e => by cases e; exact ⟨_, hK', rfl⟩)
    refine ⟨.bool true, ?_, ?_, (hH.below.setCell (p := ⟨w.heap.size + 1, 0, none⟩) (by simp) _).trans (below_put _ D _ (by omega))⟩
    · simp [results, Try.results102, go_sem, hc5]
    · rw [simple_of (fun i k hik hkl => by have := hp i (List.mem_range.2 (by omega)) k; rw [Nat.mod_eq_of_lt (show i < L.length by omega)] at this; exact this hik hkl)]
  case stop =>
    rintro D c pre W hD hpre ⟨rfl, hd, ⟨i, k, hik, hkl, hx⟩, hH⟩ hK
    gi_wp2
    refine ⟨by simp, .inl ⟨_, _, rfl, run_takeDeferred hK, ?_⟩⟩
    have hc5 := cell_kept hd (grownBy_putObj' _ D (.deferred none)) (fun r e => by cases e; exact ⟨_, hK, rfl⟩)
    refine ⟨.bool false, ?_, ?_, hH.below.trans (below_put _ D _ (by omega))⟩
    · simp [results, Try.results102, go_sem, hc5]
    · rw [simple_no hik hkl hx]
end Go.Proofs.Ytegcjdcinebleaa
