/-
  How the program makes a polygon of a list of points: the ring of its corners; which lists it refuses.
-/
import Derived.Test.YtegcjdcinebleaaYr
import Derived.Test.YtegcjdcinebleaaPb
import Derived.Lib.SmallJoins
import Derived.Deep.Heap
namespace Go.Proofs.Ytegcjdcinebleaa
open Go.RowKit Poly
set_option linter.unusedVariables false

theorem pv_prod {p : P2} {b : Bool} (h : pvP p = b) : Pt.pv p.1 p.2 = b := h
theorem pointsValidS (p : Option Addr) (c : Nat) (L : List P2) (b : Bool) (w : World) (h : Ints w p (fl L)) (hl : L.length ≤ 1000) (hb : L.all pvP = b) :
    Calls Try.prog 87 #[.slice p L.length c] w fun e w' => e = .returned (.bool b) ∧ Below w.heap.size w w' := by
  have H := Lib.hid h
  have HB := Lib.hid hb
  clear h hb
  go_enter Try.func87, Try.ntmps87
  go_wp2
  go_loopw [4, 7] (fun _ i wr => ∃ k : Nat, k ≤ L.length ∧ i = .int .i64 k ∧ Hid (∀ j, j < k → pvP (cy L j) = true) ∧ Below w.heap.size w wr) (fun _ i _ => L.length - (intOf i).toNat)
  case atStart => exact ⟨0, Nat.zero_le _, rfl, Lib.hid (fun j hj => by omega), (by repeat (first | assumption | exact Below.refl _ _ | (refine below_chain ?_ (by assumption) (by first | omega | (simp <;> omega) | simp)) | (refine Below.alloc ?_ (by first | omega | (simp <;> omega) | simp) _) | (apply below_drewN) | (apply below_drew) | (refine Below.setCell ?_ (by first | omega | (simp <;> omega) | simp) _)))⟩
  case round =>
    obtain ⟨k, hk, rfl, hv, hb⟩ := hrel
    by_cases hlt : k < L.length
    · obtain ⟨B, o, rfl, hB, c0, c1⟩ := (H.out.below hb).pt hlt
      have hbs := hb.size
      by_cases hp : pvP (cy L k) = true
      · have cv := fun w => Lib.hid (ipv_is (cy L k).1 (cy L k).2 true w hp)
        have hn2 : Hid (∀ j, j < k + 1 → pvP (cy L j) = true) := Lib.hid (fun j hj => by
          by_cases e : j = k
          · subst e; exact hp
          · exact hv.out j (by omega))
        clear hp
        go_wp2_with (go_at_call 36; (with_reducible refine ((cv _).out).mono ?_); rintro e wn ⟨rfl, hbn⟩)
        go_roundw
        case rel => exact ⟨k + 1, by omega, by go_num, hn2, (by repeat (first | assumption | exact Below.refl _ _ | (refine below_chain ?_ (by assumption) (by first | omega | (simp <;> omega) | simp)) | (refine Below.alloc ?_ (by first | omega | (simp <;> omega) | simp) _) | (apply below_drewN) | (apply below_drew) | (refine Below.setCell ?_ (by first | omega | (simp <;> omega) | simp) _)))⟩
        case measure => simp [intOf]; omega
      · have hp' : pvP (cy L k) = false := by simpa using hp
        have cv := fun w => Lib.hid (ipv_is (cy L k).1 (cy L k).2 false w hp')
        have hn2 : Hid (b = false) := Lib.hid (by
          rw [← HB.out]
          cases e : L.all pvP with
          | false => rfl
          | true =>
            have := List.all_eq_true.1 e _ (List.mem_of_getElem? (cy_lt hlt))
            rw [this] at hp'; cases hp')
        clear hp hp'
        go_wp2_with (go_at_call 36; (with_reducible refine ((cv _).out).mono ?_); rintro e wn ⟨rfl, hbn⟩)
        go_ret
        exact ⟨ret_bool hn2.out.symm, (by repeat (first | assumption | exact Below.refl _ _ | (refine below_chain ?_ (by assumption) (by first | omega | (simp <;> omega) | simp)) | (refine Below.alloc ?_ (by first | omega | (simp <;> omega) | simp) _) | (apply below_drewN) | (apply below_drew) | (refine Below.setCell ?_ (by first | omega | (simp <;> omega) | simp) _)))⟩
    · have e : k = L.length := by omega
      subst e
      have : b = true := by
        rw [← HB.out, List.all_eq_true]
        intro q hq
        obtain ⟨i, hi, rfl⟩ := List.mem_iff_getElem.1 hq
        have := hv.out i hi
        unfold cy at this
        rwa [Nat.mod_eq_of_lt hi, getD_at hi] at this
      subst this
      go_wp2
      go_ret
      exact ⟨rfl, hb⟩
/-- a list that is refused -/
theorem iOf_no (p : Option Addr) (c : Nat) (L : List P2) (w : World) (h : Ints w p (fl L)) (hl : L.length ≤ 4000000000000000000) (hok : okP L = false) :
    Calls Try.prog 67 #[.slice p L.length c] w fun e w' => e = .returned (.tuple #[.agg #[.pointer none], .bool false]) ∧ Below w.heap.size w w' := by
  have H := Lib.hid h
  by_cases h3 : (L.length : Int) < 3
  · clear h hok
    go_enter Try.func67, Try.ntmps67
    go_wp2_with fail
    exact bodyPost_ret (v := .tuple #[.agg #[.pointer none], .bool false]) (by simp [results, Try.results67, go_sem]) rfl ⟨rfl, (by repeat (first | assumption | exact Below.refl _ _ | (refine below_chain ?_ (by assumption) (by first | omega | (simp <;> omega) | simp)) | (refine Below.alloc ?_ (by first | omega | (simp <;> omega) | simp) _) | (apply below_drewN) | (apply below_drew) | (refine Below.setCell ?_ (by first | omega | (simp <;> omega) | simp) _)))⟩
  · by_cases h12 : (12 : Int) < (L.length : Int)
    · clear h hok
      go_enter Try.func67, Try.ntmps67
      go_wp2_with fail
      exact bodyPost_ret (v := .tuple #[.agg #[.pointer none], .bool false]) (by simp [results, Try.results67, go_sem]) rfl ⟨rfl, (by repeat (first | assumption | exact Below.refl _ _ | (refine below_chain ?_ (by assumption) (by first | omega | (simp <;> omega) | simp)) | (refine Below.alloc ?_ (by first | omega | (simp <;> omega) | simp) _) | (apply below_drewN) | (apply below_drew) | (refine Below.setCell ?_ (by first | omega | (simp <;> omega) | simp) _)))⟩
    · have hall : L.all pvP = false := by
        unfold okP at hok
        rw [decide_eq_true (by omega), Bool.true_and] at hok
        exact hok
      have c1 := fun w h => Lib.hid (pointsValidS p c L false w h (by omega) hall)
      clear h hok hall
      go_enter Try.func67, Try.ntmps67
      go_wp2_with ((go_at_call 87; (with_reducible refine ((c1 _ ?_).out).mono ?_); (focus ((exact H.out.below (by repeat (first | assumption | exact Below.refl _ _ | (refine below_chain ?_ (by assumption) (by first | omega | (simp <;> omega) | simp)) | (refine Below.alloc ?_ (by first | omega | (simp <;> omega) | simp) _) | (apply below_drewN) | (apply below_drew) | (refine Below.setCell ?_ (by first | omega | (simp <;> omega) | simp) _)))); done)); rintro e wa ⟨rfl, hb_wa⟩; have hs_wa := hb_wa.size; (try simp at hs_wa)); obtain ⟨hc_wa, hf_wa⟩ := bcell hb_wa; have hz_wa : w.heap.size < wa.heap.size := by omega)
      exact bodyPost_ret (v := .tuple #[.agg #[.pointer none], .bool false]) (by simp [results, Try.results67, go_sem, *]) rfl ⟨rfl, (by repeat (first | assumption | exact Below.refl _ _ | (refine below_chain ?_ (by assumption) (by first | omega | (simp <;> omega) | simp)) | (refine Below.alloc ?_ (by first | omega | (simp <;> omega) | simp) _) | (apply below_drewN) | (apply below_drew) | (refine Below.setCell ?_ (by first | omega | (simp <;> omega) | simp) _)))⟩
/-- the corners that are linked so far -/
def Chain (S : Nat) (L : List P2) (i : Nat) (W : World) : Prop := ∀ k, k ≤ i → W.heap[S + 2 * k]? = some (.cells #[.int .i64 (cy L k).1, .int .i64 (cy L k).2, .pointer (if k = i then none else some ⟨S + 2 * (k + 1), 0, none⟩)] 111 (0, 0))
set_option maxHeartbeats 4000000 in
set_option maxRecDepth 100000 in
theorem iOf_yes (p : Option Addr) (c : Nat) (L : List P2) (w : World) (h : Ints w p (fl L)) (hc : L.length ≤ c) (hok : okP L = true) :
    Calls Try.prog 67 #[.slice p L.length c] w fun e w' => ∃ A : Nat → Nat, (e = .returned (.tuple #[.agg #[.pointer (some ⟨A 0, 0, none⟩)], .bool true]) ∧ RingB w'.heap.size A L w') ∧ Below w.heap.size w w' := by
  obtain ⟨hl3, hl12⟩ := okP_len hok
  have hall : L.all pvP = true := by unfold okP at hok; rw [Bool.and_eq_true] at hok; exact hok.2
  have c1 := fun w h => Lib.hid (pointsValidS p c L true w h (by omega) hall)
  obtain ⟨B, o, rfl, hB, e0, e1⟩ := h.pt (i := 0) (by omega)
  have H := Lib.hid (And.intro h hok)
  have h3 : ¬ (L.length : Int) < 3 := by omega
  have h12 : ¬ (12 : Int) < (L.length : Int) := by omega
  clear h hok hall
  go_enter Try.func67, Try.ntmps67
  simp only [Nat.zero_mul, Nat.add_zero] at e0 e1
  go_upto_region 3 with ((go_at_call 87; (with_reducible refine ((c1 _ ?_).out).mono ?_); (focus ((exact H.out.1.below (by repeat (first | assumption | exact Below.refl _ _ | (refine below_chain ?_ (by assumption) (by first | omega | (simp <;> omega) | simp)) | (refine Below.alloc ?_ (by first | omega | (simp <;> omega) | simp) _) | (apply below_drewN) | (apply below_drew) | (refine Below.setCell ?_ (by first | omega | (simp <;> omega) | simp) _)))); done)); rintro e wa ⟨rfl, hb_wa⟩; have hs_wa := hb_wa.size; (try simp at hs_wa)); obtain ⟨hc_wa, hf_wa⟩ := bcell hb_wa; have hz_wa : w.heap.size < wa.heap.size := by omega)
  have r1 : wa.cell? ⟨w.heap.size, 0, none⟩ = some (.pointer none) := by rw [hc_wa _ _ (by simp)]; simp [go_sem]
  have r2 : wa.frozen? ⟨w.heap.size, 0, none⟩ = false := by rw [hf_wa _ _ (by simp)]; simp [go_sem]
  have hb0 : Below w.heap.size w wa := (by repeat (first | assumption | exact Below.refl _ _ | (refine below_chain ?_ (by assumption) (by first | omega | (simp <;> omega) | simp)) | (refine Below.alloc ?_ (by first | omega | (simp <;> omega) | simp) _) | (apply below_drewN) | (apply below_drew) | (refine Below.setCell ?_ (by first | omega | (simp <;> omega) | simp) _)))
  have d0 := (hb0.cell (p := ⟨B, o, none⟩) hB).trans e0
  have d1 := (hb0.cell (p := ⟨B, o + 1, none⟩) hB).trans e1
  have hBa : B < wa.heap.size := by omega
  clear hc_wa hf_wa hb_wa c1 e0 e1 h3 h12
  have hc1 : ¬ c = 1 := by omega
  obtain ⟨S, hS⟩ : ∃ S, wa.heap.size = S := ⟨_, rfl⟩
  have hch0 : Chain S L 0 (wa.alloc (.cells #[.int .i64 (cy L 0).1, .int .i64 (cy L 0).2, .pointer none] 111)) := fun k hk => by
    obtain rfl : k = 0 := by omega
    rw [if_pos rfl, Nat.mul_zero, Nat.add_zero, ← hS]
    exact Deep.blk_alloc_new _ _
  have HC0 := Lib.hid hch0
  have HA := Lib.hid (And.intro hb0 (And.intro r1 r2))
  clear hch0 hb0 r1 r2
  rw [hS] at hBa hz_wa hs_wa
  go_wp2_with fail
  clear d0 d1
  go_loopw [5, 31] (fun last i wr => ∃ k : Nat, k + 1 ≤ L.length ∧ last = .pointer (some ⟨S + 2 * k, 0, none⟩) ∧ i = .int .i64 k ∧ wr.heap.size = S + 1 + 2 * k ∧ Chain S L k wr ∧ Below S wa wr) (fun _ i _ => L.length - (intOf i).toNat)
  case atStart => exact ⟨0, by omega, rfl, rfl, by simp [hS], HC0.out, by rw [← hS]; exact (Below.refl _ _).alloc (Nat.le_refl _) _⟩
  case round =>
    clear HC0
    obtain ⟨k, hk, rfl, rfl, hsz, hch, hb⟩ := hrel
    have hblk := hch k (Nat.le_refl _)
    rw [if_pos rfl] at hblk
    have hltS : S + 2 * k < wr.heap.size := by omega
    have fz : wr.frozen? ⟨S + 2 * k, 2, none⟩ = false := by simp [World.frozen?, hblk]
    have cz : wr.cell? ⟨S + 2 * k, 2, none⟩ = some (.pointer none) := by simp [World.cell?, hblk]
    by_cases hlt : k + 1 < L.length
    · obtain ⟨B', o', e', hB', g0, g1⟩ := ((H.out.1.below HA.out.1).below (hb.mono (by omega))).pt hlt
      simp at e'
      obtain ⟨rfl, rfl⟩ := e'
      rw [show o + (k + 1) * 2 = o + 2 + k * 2 by omega] at g0 g1
      have hlt' : (k : Int) < ((L.length - 1 : Nat) : Int) := by omega
      have HK := Lib.hid (And.intro hblk (And.intro hch hb))
      clear hblk hch hb
      go_wp2_with fail
      go_roundw
      case rel =>
        refine ⟨k + 1, by omega, by rw [show S + 1 + 2 * k + 1 = S + 2 * (k + 1) by omega], by go_num, by simp; omega, ?_, ?_⟩
        · intro j hj
          obtain ⟨V, hV⟩ : ∃ V, (wr.setCell ⟨S + 2 * k, 2, none⟩ (.pointer (some ⟨S + 1 + 2 * k + 1, 0, none⟩))).alloc (.cells #[.int .i64 (cy L (k + 1)).1, .int .i64 (cy L (k + 1)).2] 31) = V := ⟨_, rfl⟩
          have hVs : V.heap.size = S + 2 * (k + 1) := by rw [← hV]; simp; omega
          rw [hV]
          by_cases e1 : j = k + 1
          · subst e1
            rw [if_pos rfl, ← hVs]
            exact Deep.blk_alloc_new _ _
          · rw [if_neg e1, Deep.blk_alloc_lt _ _ _ (by omega), ← hV, Deep.blk_alloc_lt _ _ _ (by simp; omega)]
            by_cases e2 : j = k
            · subst e2
              rw [Joins.block_setCell HK.out.1, show S + 1 + 2 * j + 1 = S + 2 * (j + 1) by omega]
              simp
            · rw [Deep.blk_setCell_other _ _ _ _ (show S + 2 * j ≠ S + 2 * k by omega), HK.out.2.1 j (by omega), if_neg e2]
        · exact ((HK.out.2.2.setCell (p := ⟨S + 2 * k, 2, none⟩) (show S ≤ S + 2 * k by omega) _).alloc (by simp; omega) _).alloc (by simp; omega) _
      case measure => simp [intOf]; omega
    · have hlt' : ¬ (k : Int) < ((L.length - 1 : Nat) : Int) := by omega
      have rr1 := (hb.cell (p := ⟨w.heap.size, 0, none⟩) (show w.heap.size < S by omega)).trans HA.out.2.1
      have rr2 := (hb.frozen (p := ⟨w.heap.size, 0, none⟩) (show w.heap.size < S by omega)).trans HA.out.2.2
      have hne : S + 2 * k ≠ w.heap.size := by omega
      have hne' : w.heap.size ≠ S + 2 * k := by omega
      have HK := Lib.hid (And.intro hblk (And.intro hch hb))
      clear hblk hch hb
      go_wp2_with fail
      refine bodyPost_ret (v := .tuple #[.agg #[.pointer (some ⟨S, 0, none⟩)], .bool true]) (by simp [results, Try.results67, go_sem, *]) rfl ?_
      have hk1 : k + 1 = L.length := by omega
      have hpos : 0 < L.length := by omega
      have hszf : ((wr.setCell ⟨S + 2 * k, 2, none⟩ (.pointer (some ⟨S, 0, none⟩))).setCell ⟨w.heap.size, 0, none⟩ (.pointer (some ⟨S, 0, none⟩))).heap.size = S + 1 + 2 * k := by simp [hsz]
      refine ⟨⟨fun j => S + 2 * (j % L.length), by simp, ?_⟩, ?_⟩
      · refine RingB.of (fun j => ?_) (fun j => ?_) (fun j => by rw [Nat.add_mod_right]) (fun i j e => by omega)
        · have := Nat.mod_lt j hpos
          rw [hszf]; omega
        · have hm := Nat.mod_lt j hpos
          obtain ⟨m, hme⟩ : ∃ m, j % L.length = m := ⟨_, rfl⟩
          rw [← cy_mod j, hme]
          rw [hme] at hm
          rw [Deep.blk_setCell_other _ _ _ _ (show S + 2 * m ≠ w.heap.size by omega)]
          by_cases e : m = k
          · subst e
            have h1 : (j + 1) % L.length = 0 := by rw [Nat.add_mod, hme, Nat.mod_eq_of_lt (show 1 < L.length by omega), hk1, Nat.mod_self]
            rw [Joins.block_setCell HK.out.1, h1]
            simp
          · have h1 : (j + 1) % L.length = m + 1 := by rw [Nat.add_mod, hme, Nat.mod_eq_of_lt (show 1 < L.length by omega), Nat.mod_eq_of_lt (by omega)]
            rw [Deep.blk_setCell_other _ _ _ _ (show S + 2 * m ≠ S + 2 * k by omega), HK.out.2.1 m (by omega), if_neg e, h1]
      · have hb1 : Below w.heap.size w wr := HA.out.1.trans (HK.out.2.2.mono (by omega))
        exact (hb1.setCell (p := ⟨S + 2 * k, 2, none⟩) (show w.heap.size ≤ S + 2 * k by omega) _).setCell (p := ⟨w.heap.size, 0, none⟩) (Nat.le_refl _) _
end Go.Proofs.Ytegcjdcinebleaa
