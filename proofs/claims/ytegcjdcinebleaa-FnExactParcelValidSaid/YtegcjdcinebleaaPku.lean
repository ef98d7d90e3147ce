/-
  The reference model's parcels: which lists are parcels, how many sides two have in common.
-/
import Derived.Test.YtegcjdcinebleaaYy
import Derived.Test.YtegcjdcinebleaaPkm
namespace Go.Proofs.Ytegcjdcinebleaa
open Go.RowKit Poly
set_option linter.unusedVariables false

section
variable {p : Option Addr} {c : Nat} {L : List P2} {w : World}
set_option maxHeartbeats 2000000 in
theorem sParcelValid_is {b : Bool} (h : Ints w p (fl L)) (hl : L.length ≤ 4000000000000000000) (hb : parV L = b) :
    Calls Try.prog 35 #[.slice p L.length c] w fun e w' => e = .returned (.bool b) ∧ Below w.heap.size w w' := by
  have H := Lib.hid h
  cases hp : polyV L
  · obtain rfl : b = false := by rw [← hb]; exact parV_off hp
    have c1 := fun w h => Lib.hid (sPolyValid_no (p := p) (c := c) (L := L) (w := w) h hl hp)
    clear h hb hp
    go_enter Try.func35, Try.ntmps35
    go_wp2_with ((go_at_call 20; (with_reducible refine ((c1 _ ?_).out).mono ?_); (focus ((exact H.out.below (by repeat (first | assumption | exact Below.refl _ _ | (refine below_chain ?_ (by assumption) (by first | omega | (simp <;> omega) | simp)) | (refine Below.alloc ?_ (by first | omega | (simp <;> omega) | simp) _) | (apply below_drewN) | (apply below_drew) | (refine Below.setCell ?_ (by first | omega | (simp <;> omega) | simp) _)))); done)); rintro e wa ⟨rfl, hb_wa⟩; have hs_wa := hb_wa.size; (try simp at hs_wa)))
    go_ret
    exact ⟨rfl, (by repeat (first | assumption | exact Below.refl _ _ | (refine below_chain ?_ (by assumption) (by first | omega | (simp <;> omega) | simp)) | (refine Below.alloc ?_ (by first | omega | (simp <;> omega) | simp) _) | (apply below_drewN) | (apply below_drew) | (refine Below.setCell ?_ (by first | omega | (simp <;> omega) | simp) _)))⟩
  · have hok := (polyV_parts hp).1
    have c1 := fun w h => Lib.hid (sPolyValid_yes (p := p) (c := c) (L := L) (w := w) h hl hp)
    have c2 := fun w h => Lib.hid (sArea (p := p) (c := c) (L := L) (w := w) h hok)
    have hb' : b = decide (0 < areaL L) := by rw [← hb]; unfold parV; rw [hp, Bool.true_and]
    rw [hb']
    clear h hb hp hok hb'
    go_enter Try.func35, Try.ntmps35
    go_wp2_with (first | ((go_at_call 20; (with_reducible refine ((c1 _ ?_).out).mono ?_); (focus ((exact H.out.below (by repeat (first | assumption | exact Below.refl _ _ | (refine below_chain ?_ (by assumption) (by first | omega | (simp <;> omega) | simp)) | (refine Below.alloc ?_ (by first | omega | (simp <;> omega) | simp) _) | (apply below_drewN) | (apply below_drew) | (refine Below.setCell ?_ (by first | omega | (simp <;> omega) | simp) _)))); done)); rintro e wa ⟨rfl, hb_wa⟩; have hs_wa := hb_wa.size; (try simp at hs_wa))) | ((go_at_call 74; (with_reducible refine ((c2 _ ?_).out).mono ?_); (focus ((exact H.out.below (by repeat (first | assumption | exact Below.refl _ _ | (refine below_chain ?_ (by assumption) (by first | omega | (simp <;> omega) | simp)) | (refine Below.alloc ?_ (by first | omega | (simp <;> omega) | simp) _) | (apply below_drewN) | (apply below_drew) | (refine Below.setCell ?_ (by first | omega | (simp <;> omega) | simp) _)))); done)); rintro e wb ⟨rfl, hb_wb⟩; have hs_wb := hb_wb.size; (try simp at hs_wb))))
    go_ret
    exact ⟨rfl, (by repeat (first | assumption | exact Below.refl _ _ | (refine below_chain ?_ (by assumption) (by first | omega | (simp <;> omega) | simp)) | (refine Below.alloc ?_ (by first | omega | (simp <;> omega) | simp) _) | (apply below_drewN) | (apply below_drew) | (refine Below.setCell ?_ (by first | omega | (simp <;> omega) | simp) _)))⟩
theorem sParcelValid_n {n : Nat} {b : Bool} (h : Ints w p (fl L)) (hn : L.length = n) (hl : n ≤ 4000000000000000000) (hb : parV L = b) :
    Calls Try.prog 35 #[.slice p n c] w fun e w' => e = .returned (.bool b) ∧ Below w.heap.size w w' := by
  subst hn; exact sParcelValid_is h hl hb
end
/-- the coordinates of both, where a side of the one is one of the other the other way round -/
theorem oppP_four (L M : List P2) (i k : Nat) : oppP L M i k = (((cy L i).1 == (cy M (k + 1)).1 && (cy L i).2 == (cy M (k + 1)).2) && ((cy L (i + 1)).1 == (cy M k).1 && (cy L (i + 1)).2 == (cy M k).2)) := by
  unfold oppP
  have e : ∀ a b : P2, decide (a = b) = (a.1 == b.1 && a.2 == b.2) := fun a b => by
    by_cases e : a = b
    · subst e; simp
    · rw [decide_eq_false e]
      by_cases h1 : a.1 = b.1
      · have h2 : ¬ a.2 = b.2 := fun h2 => e (Prod.ext h1 h2)
        simp [h2]
      · simp [h1]
  rw [e, e]
section
variable {p q : Option Addr} {c d : Nat} {L M : List P2} {w : World}
set_option maxHeartbeats 2000000 in
theorem sParcelCommon_no (h : Ints w p (fl L)) (h' : Ints w q (fl M)) (hl : L.length ≤ 4000000000000000000) (hl' : M.length ≤ 4000000000000000000) (hv : (parV L && parV M) = false) :
    Calls Try.prog 53 #[.slice p L.length c, .slice q M.length d] w fun e w' => e = .returned (.int .i64 (-1)) ∧ Below w.heap.size w w' := by
  have H := Lib.hid (And.intro h h')
  obtain ⟨b1, hb1⟩ : ∃ b, parV L = b := ⟨_, rfl⟩
  obtain ⟨b2, hb2⟩ : ∃ b, parV M = b := ⟨_, rfl⟩
  have c1 := fun w h => Lib.hid (sParcelValid_is (p := p) (c := c) (L := L) (w := w) h hl hb1)
  have c2 := fun w h => Lib.hid (sParcelValid_is (p := q) (c := d) (L := M) (w := w) h hl' hb2)
  rw [hb1, hb2] at hv
  clear h h' hb1 hb2
  cases b1
  · go_enter Try.func53, Try.ntmps53
    go_wp2_with ((go_at_call 35; (with_reducible refine ((c1 _ ?_).out).mono ?_); (focus ((exact H.out.1.below (by repeat (first | assumption | exact Below.refl _ _ | (refine below_chain ?_ (by assumption) (by first | omega | (simp <;> omega) | simp)) | (refine Below.alloc ?_ (by first | omega | (simp <;> omega) | simp) _) | (apply below_drewN) | (apply below_drew) | (refine Below.setCell ?_ (by first | omega | (simp <;> omega) | simp) _)))); done)); rintro e wa ⟨rfl, hb_wa⟩; have hs_wa := hb_wa.size; (try simp at hs_wa)))
    go_ret
    exact ⟨rfl, (by repeat (first | assumption | exact Below.refl _ _ | (refine below_chain ?_ (by assumption) (by first | omega | (simp <;> omega) | simp)) | (refine Below.alloc ?_ (by first | omega | (simp <;> omega) | simp) _) | (apply below_drewN) | (apply below_drew) | (refine Below.setCell ?_ (by first | omega | (simp <;> omega) | simp) _)))⟩
  · obtain rfl : b2 = false := by simpa using hv
    go_enter Try.func53, Try.ntmps53
    go_wp2_with (first | ((go_at_call 35; (with_reducible refine ((c1 _ ?_).out).mono ?_); (focus ((exact H.out.1.below (by repeat (first | assumption | exact Below.refl _ _ | (refine below_chain ?_ (by assumption) (by first | omega | (simp <;> omega) | simp)) | (refine Below.alloc ?_ (by first | omega | (simp <;> omega) | simp) _) | (apply below_drewN) | (apply below_drew) | (refine Below.setCell ?_ (by first | omega | (simp <;> omega) | simp) _)))); done)); rintro e wa ⟨rfl, hb_wa⟩; have hs_wa := hb_wa.size; (try simp at hs_wa))) | ((go_at_call 35; (with_reducible refine ((c2 _ ?_).out).mono ?_); (focus ((exact H.out.2.below (by repeat (first | assumption | exact Below.refl _ _ | (refine below_chain ?_ (by assumption) (by first | omega | (simp <;> omega) | simp)) | (refine Below.alloc ?_ (by first | omega | (simp <;> omega) | simp) _) | (apply below_drewN) | (apply below_drew) | (refine Below.setCell ?_ (by first | omega | (simp <;> omega) | simp) _)))); done)); rintro e wb ⟨rfl, hb_wb⟩; have hs_wb := hb_wb.size; (try simp at hs_wb))))
    go_ret
    exact ⟨rfl, (by repeat (first | assumption | exact Below.refl _ _ | (refine below_chain ?_ (by assumption) (by first | omega | (simp <;> omega) | simp)) | (refine Below.alloc ?_ (by first | omega | (simp <;> omega) | simp) _) | (apply below_drewN) | (apply below_drew) | (refine Below.setCell ?_ (by first | omega | (simp <;> omega) | simp) _)))⟩
end
end Go.Proofs.Ytegcjdcinebleaa
