/-
  What the draw of a net that nearly closes gives: a number of nodes and a list of at most eight runs in memory of its own, by the reader and new memory alone.
-/
import Derived.Test.YtgbnnepbnahecaaDNb
import Derived.Test.YtgbnnepbnahecaaNz
import Derived.Test.YtgbnnepbnahecaaTra
import Derived.Deep.RegionWith
namespace Go.Proofs.Ytgbnnepbnahecaa
open Go.RowKit
set_option linter.unusedVariables false

theorem RunsIn.below {w0 w w' : World} {R g cap : Nat} {rs : List Rn} (h : RunsIn w0 w R g cap rs) (hb : Below w.heap.size w w') : RunsIn w0 w' R g cap rs := ⟨h.1, h.2.1.below hb, gb_below h.2.2 hb⟩
theorem gb_undrew {w w' : World} {r : Option Nat} (h : w.drew.grownBy w' r) : w.grownBy w' r := ⟨h.os, h.tape, h.output, h.size, h.block⟩
def Near20 (L : List Int) : Prop := ∀ (i : Nat) (z : Int), L[i]? = some z → -20 ≤ z ∧ z ≤ 20
theorem Near20.snoc {L : List Int} (h : Near20 L) {z : Int} (h0 : -20 ≤ z) (h1 : z ≤ 20) : Near20 (L ++ [z]) := fun i y hy => by
  by_cases hi : i < L.length
  · rw [List.getElem?_append_left hi] at hy; exact h i y hy
  · rw [List.getElem?_append_right (by omega)] at hy
    have : i - L.length = 0 := by
      have := (List.getElem?_eq_some_iff.1 hy).1; simp at this; omega
    rw [this] at hy
    simp at hy; subst hy; exact ⟨h0, h1⟩
theorem fitOne_small {hs : List Int} {r : Rn} (h : Near20 hs) (h1 : 0 ≤ r.f) (h2 : r.f < hs.length) (h3 : 0 ≤ r.t) (h4 : r.t < hs.length) : -40 ≤ (fitOne hs r).s ∧ (fitOne hs r).s ≤ 40 := by
  have a := h _ _ (htAt_get (L := hs) h1 h2)
  have b := h _ _ (htAt_get (L := hs) h3 h4)
  simp only [fitOne]; omega

end Go.Proofs.Ytgbnnepbnahecaa
