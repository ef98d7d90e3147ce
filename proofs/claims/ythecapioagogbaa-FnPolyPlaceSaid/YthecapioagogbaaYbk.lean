/-
  The program's polygon the other way round.
-/
import Derived.Test.YthecapioagogbaaYx
import Derived.Test.YthecapioagogbaaYq
import Derived.Test.YthecapioagogbaaYs
namespace Go.Proofs.Ythecapioagogbaa
open Go.RowKit Poly
set_option linter.unusedVariables false

theorem back_len (L : List P2) : (backL L).length = L.length := by cases L <;> simp [backL]
theorem cy_back (L : List P2) (h : 0 < L.length) (i : Nat) : cy (backL L) i = cy L (L.length - i % L.length) := by
  unfold cy
  rw [back_len]
  have hm := Nat.mod_lt i h
  generalize i % L.length = m at *
  cases L with
  | nil => simp at h
  | cons a l =>
    rcases Nat.eq_zero_or_pos m with rfl | hp
    · simp [backL]
    · have h1 : (a :: l).length - m < (a :: l).length := by simp at hm ⊢; omega
      rw [Nat.mod_eq_of_lt h1, getD_at h1, getD_at (by rw [back_len]; exact hm)]
      obtain ⟨q, rfl⟩ : ∃ q, m = q + 1 := ⟨m - 1, by omega⟩
      simp only [backL, List.getElem_cons_succ]
      rw [List.getElem_reverse]
      have e : (a :: l).length - (q + 1) = (l.length - 1 - q) + 1 := by simp at hm ⊢; omega
      simp only [e, List.getElem_cons_succ]
theorem okP_back {L : List P2} (h : okP L = true) : okP (backL L) = true := by
  have hl := okP_len h
  refine okP_of (by rw [back_len]; exact hl.1) (by rw [back_len]; exact hl.2) (fun i hi => ?_)
  rw [cy_back L (by omega)]
  exact okP_at h _
/-- what is turned round so far -/
def Bk (S : Nat) (L : List P2) (k : Nat) (W : World) : Prop :=
  W.heap[S]? = some (.cells #[.int .i64 (cy L 0).1, .int .i64 (cy L 0).2, .pointer (some ⟨S + (k - 1), 0, none⟩)] 77 (0, 0)) ∧ ∀ j, 0 < j → j < k → W.heap[S + j]? = some (.cells #[.int .i64 (cy L j).1, .int .i64 (cy L j).2, .pointer (some ⟨S + (j - 1), 0, none⟩)] 77 (0, 0))
set_option maxHeartbeats 4000000 in
set_option maxRecDepth 100000 in
theorem iBack {n₀ : Nat} {A : Nat → Nat} {L : List P2} {w : World} (hR : RingB n₀ A L w) (hn : n₀ ≤ w.heap.size) (hok : okP L = true) :
    Calls Try.prog 50 #[.agg #[.pointer (some ⟨A 0, 0, none⟩)]] w fun e w' => ∃ A' : Nat → Nat, (e = .returned (.agg #[.pointer (some ⟨A' 0, 0, none⟩)]) ∧ RingB w'.heap.size A' (backL L) w') ∧ Below w.heap.size w w' := by
  obtain ⟨hl3, hl12⟩ := okP_len hok
  have HR := Lib.hid (And.intro hR hok)
  obtain ⟨x0, x1, x2⟩ := hR.ring.cells 0
  have l0 : A 0 < w.heap.size := Nat.lt_of_lt_of_le (hR.ring.lt 0) hn
  have l1 : A 1 < w.heap.size := Nat.lt_of_lt_of_le (hR.ring.lt 1) hn
  have l0a : A 0 < w.heap.size + 1 := by omega
  have l0b : A 0 < w.heap.size + 1 + 1 := by omega
  have l0c : A 0 < w.heap.size + 1 + 1 + 1 := by omega
  have l0d : ¬ A 0 = w.heap.size + 1 + 1 := by omega
  clear hR hok
  go_enter Try.func50, Try.ntmps50
  go_wp2_with fail
  obtain ⟨V, hV⟩ : ∃ V, V = ((w.alloc (.cells #[.pointer (some ⟨A 0, 0, none⟩)] 55)).alloc (.cells #[.pointer none] 55)).alloc (.cells #[.int .i64 (cy L 0).1, .int .i64 (cy L 0).2, .pointer (some ⟨w.heap.size + 1 + 1, 0, none⟩)] 77) := ⟨_, rfl⟩
  obtain ⟨S, hS⟩ : ∃ S, S = w.heap.size + 1 + 1 := ⟨_, rfl⟩
  have hsV : V.heap.size = S + 1 := by rw [hV, hS]; simp
  have hbV : Below w.heap.size w V := by rw [hV]; exact (by repeat (first | assumption | exact Below.refl _ _ | (refine below_chain ?_ (by assumption) (by first | omega | (simp <;> omega) | simp)) | (refine Below.alloc ?_ (by first | omega | (simp <;> omega) | simp) _) | (apply below_drewN) | (apply below_drew) | (refine Below.setCell ?_ (by first | omega | (simp <;> omega) | simp) _)))
  have y0 : V.cell? ⟨w.heap.size, 0, none⟩ = some (.pointer (some ⟨A 0, 0, none⟩)) := by rw [hV]; simp [go_sem]
  have y1 : V.cell? ⟨w.heap.size + 1, 0, none⟩ = some (.pointer none) := by rw [hV]; simp [go_sem]
  have y2 : V.frozen? ⟨w.heap.size + 1, 0, none⟩ = false := by rw [hV]; simp [go_sem]
  have hBk : Bk S L 1 V := ⟨by
    rw [hV, hS]
    have := Deep.blk_alloc_new ((w.alloc (.cells #[.pointer (some ⟨A 0, 0, none⟩)] 55)).alloc (.cells #[.pointer none] 55)) (.cells #[.int .i64 (cy L 0).1, .int .i64 (cy L 0).2, .pointer (some ⟨w.heap.size + 1 + 1, 0, none⟩)] 77)
    simpa using this, fun j h1 h2 => by omega⟩
  rw [← hV, ← hS]
  have hSw : S = w.heap.size + 1 + 1 := hS
  have HV := Lib.hid (And.intro hbV (And.intro y0 (And.intro y1 (And.intro y2 (And.intro hBk hSw)))))
  have hwS : w.heap.size < S := by omega
  have hwS1 : w.heap.size + 1 < S := by omega
  clear hV hS hbV y0 y1 y2 hBk hSw x0 x1 x2 l0 l1 l0a l0b l0c l0d
  go_loopw [4] (fun c wr => ∃ k : Nat, (0 < k ∧ k ≤ L.length) ∧ c = .pointer (some ⟨A k, 0, none⟩) ∧ wr.heap.size = S + k ∧ Bk S L k wr ∧ Below S V wr) (fun c _ => restN A L.length c)
  case atStart => exact ⟨1, by omega, rfl, hsV, HV.out.2.2.2.2.1, Below.refl _ _⟩
  case round =>
    obtain ⟨k, ⟨hk0, hk⟩, rfl, hsz, hbk, hb⟩ := hrel
    have hRk : RingB n₀ A L wr := (HR.out.1.below (HV.out.1.mono hn)).below (hb.mono (by omega))
    have z0 := (hb.cell (p := ⟨w.heap.size, 0, none⟩) hwS).trans HV.out.2.1
    have hne := fun b => hRk.neq k 0 (b := b)
    rw [Nat.zero_mod] at hne
    obtain ⟨hb0, hbj⟩ := hbk
    have s2 : wr.cell? ⟨S, 2, none⟩ = some (.pointer (some ⟨S + (k - 1), 0, none⟩)) := by simp [World.cell?, hb0]
    have sf : wr.frozen? ⟨S, 2, none⟩ = false := by simp [World.frozen?, hb0]
    by_cases hlast : k = L.length
    · have hne' := hne false (by rw [hlast, Nat.mod_self]; rfl)
      have r1 := (hb.cell (p := ⟨w.heap.size + 1, 0, none⟩) hwS1).trans HV.out.2.2.1
      have r2 := (hb.frozen (p := ⟨w.heap.size + 1, 0, none⟩) hwS1).trans HV.out.2.2.2.1
      have HK := Lib.hid (And.intro hb0 (And.intro hbj (And.intro hb (And.intro hlast hsz))))
      clear hne hRk hb0 hbj hb hlast hsz
      go_wp2_with fail
      refine bodyPost_ret (v := .agg #[.pointer (some ⟨S, 0, none⟩)]) (by simp [results, Try.results50, go_sem, *]) rfl ?_
      have hlast := HK.out.2.2.2.1
      have hsz := HK.out.2.2.2.2
      have hpos : 0 < L.length := by omega
      have hbL := back_len L
      refine ⟨fun i => S + (if i % L.length = 0 then 0 else L.length - i % L.length), ⟨by simp, ?_⟩, ?_⟩
      · have hszf : (wr.setCell ⟨w.heap.size + 1, 0, none⟩ (.pointer (some ⟨S, 0, none⟩))).heap.size = S + L.length := by simp; omega
        have hmx : ∀ i, i % L.length < L.length := fun i => Nat.mod_lt i hpos
        have hm1 : ∀ i, (i + 1) % L.length = if i % L.length + 1 = L.length then 0 else i % L.length + 1 := fun i => by
          have := hmx i
          rw [Nat.add_mod, Nat.mod_eq_of_lt (show 1 < L.length by omega)]
          split
          · next e => rw [e, Nat.mod_self]
          · exact Nat.mod_eq_of_lt (by omega)
        refine RingB.of (fun i => ?_) (fun i => ?_) (fun i => by rw [hbL, Nat.add_mod_right]) (fun i j e => ?_)
        · have := hmx i
          rw [hszf]
          split <;> omega
        · have h1 := hmx i
          have h2 := hm1 i
          rw [cy_back L hpos i, h2]
          generalize i % L.length = m at *
          by_cases e0 : m = 0
          · subst e0
            rw [if_pos rfl, show S + 0 = S from rfl, Deep.blk_setCell_other _ _ _ _ (show S ≠ w.heap.size + 1 by omega)]
            refine HK.out.1.trans ?_
            have e1 : cy L (L.length - 0) = cy L 0 := by have := cy_add (L := L) 0; rw [Nat.zero_add] at this; exact this
            rw [e1, hlast, if_neg (show ¬ (0 + 1 = L.length) by omega)]
            rfl
          · rw [if_neg e0, Deep.blk_setCell_other _ _ _ _ (show S + (L.length - m) ≠ w.heap.size + 1 by omega), HK.out.2.1 (L.length - m) (by omega) (by omega)]
            by_cases e1 : m + 1 = L.length
            · rw [if_pos e1, if_pos rfl, show L.length - m - 1 = 0 by omega]
            · rw [if_neg e1, if_neg (by omega), show L.length - m - 1 = L.length - (m + 1) by omega]
        · have h1 := hmx i
          have h2 := hmx j
          rw [hbL]
          try dsimp only at e
          split at e <;> split at e <;> omega
      · exact (HV.out.1.trans (HK.out.2.2.1.mono (by omega))).setCell (p := ⟨w.heap.size + 1, 0, none⟩) (by simp) _
    · have hkl : k < L.length := by omega
      have hne' := hne true (by rw [Nat.mod_eq_of_lt hkl, decide_eq_false (by omega)]; rfl)
      obtain ⟨g0, g1, g2⟩ := hRk.ring.cells k
      have lk : A k < wr.heap.size := by have := hRk.ring.lt k; have := HV.out.1.size; omega
      have lkS : ¬ A k = S := by have := hRk.ring.lt k; have := HV.out.2.2.2.2.2; omega
      have lkS' : ¬ S = A k := fun h => lkS h.symm
      have lS : S < wr.heap.size := by omega
      have HK := Lib.hid (And.intro hb0 (And.intro hbj (And.intro hb (And.intro hRk hsz))))
      clear hne hRk hb0 hbj hb hlast hsz
      go_wp2_with fail
      go_region
      all_goals go_wp2_with fail
      go_roundw
      case rel =>
        have hsz := HK.out.2.2.2.2
        have hsc : (wr.setCell ⟨S, 2, none⟩ (.pointer (some ⟨wr.heap.size, 0, none⟩))).heap.size = wr.heap.size := by simp
        refine ⟨k + 1, ⟨by omega, by omega⟩, rfl, by simp; omega, ⟨?_, fun j h1 h2 => ?_⟩, below_drew (((HK.out.2.2.1.setCell (p := ⟨S, 2, none⟩) (Nat.le_refl _) _).alloc (by simp; omega) _))⟩
        · show ((wr.setCell ⟨S, 2, none⟩ (.pointer (some ⟨wr.heap.size, 0, none⟩))).alloc _).heap[S]? = _
          rw [Deep.blk_alloc_lt _ _ _ (by rw [hsc]; exact lS), Joins.block_setCell HK.out.1, hsz, show S + (k + 1 - 1) = S + k by omega]
          simp
        · show ((wr.setCell ⟨S, 2, none⟩ (.pointer (some ⟨wr.heap.size, 0, none⟩))).alloc _).heap[S + j]? = _
          by_cases e : j = k
          · subst e
            have := Deep.blk_alloc_new (wr.setCell ⟨S, 2, none⟩ (.pointer (some ⟨wr.heap.size, 0, none⟩))) (.cells #[.int .i64 (cy L j).1, .int .i64 (cy L j).2, .pointer (some ⟨S + (j - 1), 0, none⟩)] 77)
            rw [hsc, hsz] at this
            rw [hsz]
            exact this
          · rw [Deep.blk_alloc_lt _ _ _ (by rw [hsc]; omega), Deep.blk_setCell_other _ _ _ _ (show S + j ≠ S by omega)]
            exact HK.out.2.1 j h1 (by omega)
      case measure => rw [restN_eq HK.out.2.2.2.1.ring (by omega) (by omega), restN_eq HK.out.2.2.2.1.ring hk0 hk]; omega
end Go.Proofs.Ythecapioagogbaa
