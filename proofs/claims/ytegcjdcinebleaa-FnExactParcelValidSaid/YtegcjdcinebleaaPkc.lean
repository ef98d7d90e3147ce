/-
  The program's parcels: which lists are parcels, which sides oppose each other.
-/
import Derived.Test.YtegcjdcinebleaaYt
import Derived.Test.YtegcjdcinebleaaPkm
namespace Go.Proofs.Ytegcjdcinebleaa
open Go.RowKit Poly
set_option linter.unusedVariables false

theorem set_same {w : World} {g : Nat} {x : Value} (h : w.cell? ⟨g, 0, none⟩ = some x) (v : Value) : (w.setCell ⟨g, 0, none⟩ v).cell? ⟨g, 0, none⟩ = some v := World.cell?_setCell_same' _ _ _ (by rw [h]; rfl)
section
variable {p : Option Addr} {c : Nat} {L : List P2} {w : World}
set_option maxHeartbeats 2000000 in
theorem iParcelOf_no (h : Ints w p (fl L)) (hc : L.length ≤ c) (hl : L.length ≤ 4000000000000000000) (hv : parV L = false) :
    Calls Try.prog 81 #[.slice p L.length c] w fun e w' => e = .returned (.tuple #[.agg #[.pointer none], .bool false]) ∧ Below w.heap.size w w' := by
  have H := Lib.hid h
  cases hp : polyV L
  · have c1 := fun w h => Lib.hid (iSimpleOf_no (p := p) (c := c) (L := L) (w := w) h hc hl hp)
    clear h hv hp
    go_enter Try.func81, Try.ntmps81
    go_wp2_with ((go_at_call 63; (with_reducible refine ((c1 _ ?_).out).mono ?_); (focus ((exact H.out.below (by repeat (first | assumption | exact Below.refl _ _ | (refine below_chain ?_ (by assumption) (by first | omega | (simp <;> omega) | simp)) | (refine Below.alloc ?_ (by first | omega | (simp <;> omega) | simp) _) | (apply below_drewN) | (apply below_drew) | (refine Below.setCell ?_ (by first | omega | (simp <;> omega) | simp) _)))); done)); rintro e wa ⟨rfl, hb_wa⟩; have hs_wa := hb_wa.size; (try simp at hs_wa)); obtain ⟨hc_wa, hf_wa⟩ := bcell hb_wa; (try have hz_wa : w.heap.size < wa.heap.size := by omega))
    exact bodyPost_ret (v := .tuple #[.agg #[.pointer none], .bool false]) (by simp [results, Try.results81, go_sem, *]) rfl ⟨rfl, (by repeat (first | assumption | exact Below.refl _ _ | (refine below_chain ?_ (by assumption) (by first | omega | (simp <;> omega) | simp)) | (refine Below.alloc ?_ (by first | omega | (simp <;> omega) | simp) _) | (apply below_drewN) | (apply below_drew) | (refine Below.setCell ?_ (by first | omega | (simp <;> omega) | simp) _)))⟩
  · have hok : okP L = true := polyV_ok hp
    have ha : areaL L ≤ 0 := by
      unfold parV at hv; rw [hp, Bool.true_and, decide_eq_false_iff_not] at hv; omega
    have c1 := fun w h => Lib.hid (iSimpleOf_yes (p := p) (c := c) (L := L) (w := w) h hc hp)
    have c2 := fun (A : Nat → Nat) (n₀ : Nat) w h hn => Lib.hid (iArea (n₀ := n₀) (A := A) (L := L) (w := w) h hn hok)
    clear h hv hok hp
    go_enter Try.func81, Try.ntmps81
    go_wp2_with (first | ((go_at_call 63; (with_reducible refine ((c1 _ ?_).out).mono ?_); (focus ((exact H.out.below (by repeat (first | assumption | exact Below.refl _ _ | (refine below_chain ?_ (by assumption) (by first | omega | (simp <;> omega) | simp)) | (refine Below.alloc ?_ (by first | omega | (simp <;> omega) | simp) _) | (apply below_drewN) | (apply below_drew) | (refine Below.setCell ?_ (by first | omega | (simp <;> omega) | simp) _)))); done)); rintro e wa ⟨A, ⟨rfl, hR⟩, hb_wa⟩; have hs_wa := hb_wa.size; (try simp at hs_wa)); obtain ⟨hc_wa, hf_wa⟩ := bcell hb_wa; (try have hz_wa : w.heap.size < wa.heap.size := by omega)) | ((go_at_call 70; (with_reducible refine ((c2 A wa.heap.size _ ?_ ?_).out).mono ?_); (focus ((exact hR.below ((Below.refl _ _).alloc (Nat.le_refl _) _)); done)); (focus (((simp <;> omega)); done)); rintro e wb ⟨rfl, hb_wb⟩; have hs_wb := hb_wb.size; (try simp at hs_wb)); obtain ⟨hc_wb, hf_wb⟩ := bcell hb_wb; (try have hz_wb : w.heap.size < wb.heap.size := by omega)))
    have e1 : wb.cell? ⟨w.heap.size, 0, none⟩ = some (.pointer none) := by (repeat (first | with_reducible assumption | (with_reducible refine cell_below_keep (by with_reducible assumption) ?_) | (with_reducible refine cell_gb_keep (by with_reducible assumption) (by omega) ?_) | (simp [go_sem]; done) | (with_reducible refine cell_alloc_keep _ ?_) | (with_reducible refine cell_drew_keep ?_) | (with_reducible refine cell_drewN_keep _ ?_) | (with_reducible refine cell_set_keep _ (by first | (simp; omega) | omega) ?_)))
    have e2 := set_same e1
    exact bodyPost_ret (v := .tuple #[.agg #[.pointer none], .bool false]) (by simp [results, Try.results81, go_sem, *]) rfl ⟨rfl, (by repeat (first | assumption | exact Below.refl _ _ | (refine below_chain ?_ (by assumption) (by first | omega | (simp <;> omega) | simp)) | (refine Below.alloc ?_ (by first | omega | (simp <;> omega) | simp) _) | (apply below_drewN) | (apply below_drew) | (refine Below.setCell ?_ (by first | omega | (simp <;> omega) | simp) _)))⟩
set_option maxHeartbeats 2000000 in
theorem iParcelOf_yes (h : Ints w p (fl L)) (hc : L.length ≤ c) (hv : parV L = true) :
    Calls Try.prog 81 #[.slice p L.length c] w fun e w' => ∃ A : Nat → Nat, (e = .returned (.tuple #[.agg #[.pointer (some ⟨A 0, 0, none⟩)], .bool true]) ∧ RingB w'.heap.size A L w') ∧ Below w.heap.size w w' := by
  have H := Lib.hid h
  have hp := parV_poly hv
  have hok : okP L = true := polyV_ok hp
  have ha := parV_area hv
  have c1 := fun w h => Lib.hid (iSimpleOf_yes (p := p) (c := c) (L := L) (w := w) h hc hp)
  have c2 := fun (A : Nat → Nat) (n₀ : Nat) w h hn => Lib.hid (iArea (n₀ := n₀) (A := A) (L := L) (w := w) h hn hok)
  have ha' : ¬ areaL L ≤ 0 := by omega
  clear h hv hok hp
  go_enter Try.func81, Try.ntmps81
  go_wp2_with (first | ((go_at_call 63; (with_reducible refine ((c1 _ ?_).out).mono ?_); (focus ((exact H.out.below (by repeat (first | assumption | exact Below.refl _ _ | (refine below_chain ?_ (by assumption) (by first | omega | (simp <;> omega) | simp)) | (refine Below.alloc ?_ (by first | omega | (simp <;> omega) | simp) _) | (apply below_drewN) | (apply below_drew) | (refine Below.setCell ?_ (by first | omega | (simp <;> omega) | simp) _)))); done)); rintro e wa ⟨A, ⟨rfl, hR⟩, hb_wa⟩; have hs_wa := hb_wa.size; (try simp at hs_wa)); obtain ⟨hc_wa, hf_wa⟩ := bcell hb_wa; (try have hz_wa : w.heap.size < wa.heap.size := by omega)) | ((go_at_call 70; (with_reducible refine ((c2 A wa.heap.size _ ?_ ?_).out).mono ?_); (focus ((exact hR.below ((Below.refl _ _).alloc (Nat.le_refl _) _)); done)); (focus (((simp <;> omega)); done)); rintro e wb ⟨rfl, hb_wb⟩; have hs_wb := hb_wb.size; (try simp at hs_wb)); obtain ⟨hc_wb, hf_wb⟩ := bcell hb_wb; (try have hz_wb : w.heap.size < wb.heap.size := by omega)))
  have e1 : wb.cell? ⟨w.heap.size, 0, none⟩ = some (.pointer none) := by (repeat (first | with_reducible assumption | (with_reducible refine cell_below_keep (by with_reducible assumption) ?_) | (with_reducible refine cell_gb_keep (by with_reducible assumption) (by omega) ?_) | (simp [go_sem]; done) | (with_reducible refine cell_alloc_keep _ ?_) | (with_reducible refine cell_drew_keep ?_) | (with_reducible refine cell_drewN_keep _ ?_) | (with_reducible refine cell_set_keep _ (by first | (simp; omega) | omega) ?_)))
  have e2 := set_same e1
  refine bodyPost_ret (v := .tuple #[.agg #[.pointer (some ⟨A 0, 0, none⟩)], .bool true]) (by simp [results, Try.results81, go_sem, *]) rfl ⟨A, ⟨rfl, ?_⟩, (by repeat (first | assumption | exact Below.refl _ _ | (refine below_chain ?_ (by assumption) (by first | omega | (simp <;> omega) | simp)) | (refine Below.alloc ?_ (by first | omega | (simp <;> omega) | simp) _) | (apply below_drewN) | (apply below_drew) | (refine Below.setCell ?_ (by first | omega | (simp <;> omega) | simp) _)))⟩
  have hq : Below wa.heap.size wa wb := ((Below.refl wa.heap.size wa).alloc (Nat.le_refl _) _).trans (hb_wb.mono (by simp))
  exact ((hR.below hq).put e1 _).up (by simpa using hq.size)
set_option maxHeartbeats 2000000 in
theorem iParcelValid_no (h : Ints w p (fl L)) (hc : L.length ≤ c) (hl : L.length ≤ 4000000000000000000) (hv : parV L = false) :
    Calls Try.prog 34 #[.slice p L.length c] w fun e w' => e = .returned (.bool false) ∧ Below w.heap.size w w' := by
  have H := Lib.hid h
  have c1 := fun w h => Lib.hid (iParcelOf_no (p := p) (c := c) (L := L) (w := w) h hc hl hv)
  clear h hv
  go_enter Try.func34, Try.ntmps34
  go_wp2_with ((go_at_call 81; (with_reducible refine ((c1 _ ?_).out).mono ?_); (focus ((exact H.out.below (by repeat (first | assumption | exact Below.refl _ _ | (refine below_chain ?_ (by assumption) (by first | omega | (simp <;> omega) | simp)) | (refine Below.alloc ?_ (by first | omega | (simp <;> omega) | simp) _) | (apply below_drewN) | (apply below_drew) | (refine Below.setCell ?_ (by first | omega | (simp <;> omega) | simp) _)))); done)); rintro e wa ⟨rfl, hb_wa⟩; have hs_wa := hb_wa.size; (try simp at hs_wa)); obtain ⟨hc_wa, hf_wa⟩ := bcell hb_wa; (try have hz_wa : w.heap.size < wa.heap.size := by omega))
  exact bodyPost_ret (v := .bool false) (by simp [results, Try.results34, go_sem, *]) rfl ⟨rfl, (by repeat (first | assumption | exact Below.refl _ _ | (refine below_chain ?_ (by assumption) (by first | omega | (simp <;> omega) | simp)) | (refine Below.alloc ?_ (by first | omega | (simp <;> omega) | simp) _) | (apply below_drewN) | (apply below_drew) | (refine Below.setCell ?_ (by first | omega | (simp <;> omega) | simp) _)))⟩
set_option maxHeartbeats 2000000 in
theorem iParcelValid_yes (h : Ints w p (fl L)) (hc : L.length ≤ c) (hv : parV L = true) :
    Calls Try.prog 34 #[.slice p L.length c] w fun e w' => e = .returned (.bool true) ∧ Below w.heap.size w w' := by
  have H := Lib.hid h
  have c1 := fun w h => Lib.hid (iParcelOf_yes (p := p) (c := c) (L := L) (w := w) h hc hv)
  clear h hv
  go_enter Try.func34, Try.ntmps34
  go_wp2_with ((go_at_call 81; (with_reducible refine ((c1 _ ?_).out).mono ?_); (focus ((exact H.out.below (by repeat (first | assumption | exact Below.refl _ _ | (refine below_chain ?_ (by assumption) (by first | omega | (simp <;> omega) | simp)) | (refine Below.alloc ?_ (by first | omega | (simp <;> omega) | simp) _) | (apply below_drewN) | (apply below_drew) | (refine Below.setCell ?_ (by first | omega | (simp <;> omega) | simp) _)))); done)); rintro e wa ⟨A, ⟨rfl, hR⟩, hb_wa⟩; have hs_wa := hb_wa.size; (try simp at hs_wa)); obtain ⟨hc_wa, hf_wa⟩ := bcell hb_wa; (try have hz_wa : w.heap.size < wa.heap.size := by omega))
  exact bodyPost_ret (v := .bool true) (by simp [results, Try.results34, go_sem, *]) rfl ⟨rfl, (by repeat (first | assumption | exact Below.refl _ _ | (refine below_chain ?_ (by assumption) (by first | omega | (simp <;> omega) | simp)) | (refine Below.alloc ?_ (by first | omega | (simp <;> omega) | simp) _) | (apply below_drewN) | (apply below_drew) | (refine Below.setCell ?_ (by first | omega | (simp <;> omega) | simp) _)))⟩
end
section
variable {n₁ n₂ : Nat} {A B : Nat → Nat} {L M : List P2} {w : World}
set_option maxHeartbeats 2000000 in
theorem iOpposes (hR : Ring n₁ A L w) (hn : n₁ ≤ w.heap.size) (hS : Ring n₂ B M w) (hm : n₂ ≤ w.heap.size) (i k : Nat) :
    Calls Try.prog 113 #[.pointer (some ⟨A i, 0, none⟩), .pointer (some ⟨B k, 0, none⟩)] w fun e w' => e = .returned (.bool (oppP L M i k)) ∧ Below w.heap.size w w' := by
  obtain ⟨x0, x1, x2⟩ := hR.cells i
  obtain ⟨y0, y1, y2⟩ := hR.cells (i + 1)
  obtain ⟨z0, z1, z2⟩ := hS.cells k
  obtain ⟨t0, t1, t2⟩ := hS.cells (k + 1)
  have l1 : A i < w.heap.size := Nat.lt_of_lt_of_le (hR.lt i) hn
  have l2 : A (i + 1) < w.heap.size := Nat.lt_of_lt_of_le (hR.lt (i + 1)) hn
  have l3 : B k < w.heap.size := Nat.lt_of_lt_of_le (hS.lt k) hm
  have l4 : B (k + 1) < w.heap.size := Nat.lt_of_lt_of_le (hS.lt (k + 1)) hm
  have ho : oppP L M i k = (((cy L i).1 == (cy M (k + 1)).1 && (cy L i).2 == (cy M (k + 1)).2) && ((cy L (i + 1)).1 == (cy M k).1 && (cy L (i + 1)).2 == (cy M k).2)) := by
    unfold oppP
    have e : ∀ a b : P2, decide (a = b) = (a.1 == b.1 && a.2 == b.2) := fun a b => by
      by_cases e : a = b
      · subst e; simp
      · rw [decide_eq_false e]
        by_cases h1 : a.1 = b.1
        · have h2 : ¬ a.2 = b.2 := fun h2 => e (Prod.ext h1 h2)
          simp [h2]
        · simp [h1]
    rw [e, e]
  rw [ho]
  clear hR hS ho
  generalize (cy L i).1 = a1 at *
  generalize (cy L i).2 = a2 at *
  generalize (cy L (i + 1)).1 = b1 at *
  generalize (cy L (i + 1)).2 = b2 at *
  generalize (cy M k).1 = c1 at *
  generalize (cy M k).2 = c2 at *
  generalize (cy M (k + 1)).1 = d1 at *
  generalize (cy M (k + 1)).2 = d2 at *
  by_cases h1 : a1 = d1
  · by_cases h2 : a2 = d2
    · by_cases h3 : b1 = c1
      · by_cases h4 : b2 = c2
        · go_enter Try.func113, Try.ntmps113
          go_upto_region 1 with fail
          go_quiet (fail)
          go_wp2_with fail
          go_ret
          exact ⟨by simp [h1, h2, h3, h4], (by repeat (first | assumption | exact Below.refl _ _ | (refine below_chain ?_ (by assumption) (by first | omega | (simp <;> omega) | simp)) | (refine Below.alloc ?_ (by first | omega | (simp <;> omega) | simp) _) | (apply below_drewN) | (apply below_drew) | (refine Below.setCell ?_ (by first | omega | (simp <;> omega) | simp) _)))⟩
        · go_enter Try.func113, Try.ntmps113
          go_upto_region 1 with fail
          go_quiet (fail)
          go_wp2_with fail
          go_ret
          exact ⟨by simp [h1, h2, h3, h4], (by repeat (first | assumption | exact Below.refl _ _ | (refine below_chain ?_ (by assumption) (by first | omega | (simp <;> omega) | simp)) | (refine Below.alloc ?_ (by first | omega | (simp <;> omega) | simp) _) | (apply below_drewN) | (apply below_drew) | (refine Below.setCell ?_ (by first | omega | (simp <;> omega) | simp) _)))⟩
      · go_enter Try.func113, Try.ntmps113
        go_upto_region 1 with fail
        go_quiet (fail)
        go_wp2_with fail
        go_ret
        exact ⟨by simp [h1, h2, h3], (by repeat (first | assumption | exact Below.refl _ _ | (refine below_chain ?_ (by assumption) (by first | omega | (simp <;> omega) | simp)) | (refine Below.alloc ?_ (by first | omega | (simp <;> omega) | simp) _) | (apply below_drewN) | (apply below_drew) | (refine Below.setCell ?_ (by first | omega | (simp <;> omega) | simp) _)))⟩
    · go_enter Try.func113, Try.ntmps113
      go_upto_region 1 with fail
      go_quiet (fail)
      go_wp2_with fail
      go_ret
      exact ⟨by simp [h1, h2], (by repeat (first | assumption | exact Below.refl _ _ | (refine below_chain ?_ (by assumption) (by first | omega | (simp <;> omega) | simp)) | (refine Below.alloc ?_ (by first | omega | (simp <;> omega) | simp) _) | (apply below_drewN) | (apply below_drew) | (refine Below.setCell ?_ (by first | omega | (simp <;> omega) | simp) _)))⟩
  · go_enter Try.func113, Try.ntmps113
    go_upto_region 1 with fail
    go_quiet (fail)
    go_wp2_with fail
    go_ret
    exact ⟨by simp [h1], (by repeat (first | assumption | exact Below.refl _ _ | (refine below_chain ?_ (by assumption) (by first | omega | (simp <;> omega) | simp)) | (refine Below.alloc ?_ (by first | omega | (simp <;> omega) | simp) _) | (apply below_drewN) | (apply below_drew) | (refine Below.setCell ?_ (by first | omega | (simp <;> omega) | simp) _)))⟩
end
end Go.Proofs.Ytegcjdcinebleaa
