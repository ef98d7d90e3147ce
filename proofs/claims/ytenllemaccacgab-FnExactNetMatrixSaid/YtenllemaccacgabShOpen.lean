/-
  What an exact law that takes lists of numbers is told of them: the list opened.
-/
import Derived.Test.YtenllemaccacgabLaw
import Derived.Test.YtenllemaccacgabZa
import Derived.Deep.Slices
import Derived.ChangeOld
namespace Go.Proofs.Ytenllemaccacgab
open Go.ChangeShapes Go.WideShapes Go.ChangeAt Go.RowKit Go.Joins Go.Deep
set_option linter.unusedVariables false

theorem laidOut : laidOutB Try.prog = true := by kernel_rfl

theorem open_nums {H : Type} {enc : TypeId × Value → H} {W : World} {a : Option Addr} {len cap : Nat} {d : DataW H} {p : List MemPlace}
    (h : DataW.Trod enc Try.prog W 0 (fun _ => true) true 35 (.slice a len cap) d p) : ∃ zs : List Int, len = zs.length ∧ Ints W a zs ∧ zs.length ≤ 9223372036854775807 := by
  obtain ⟨fuel, hf⟩ := h
  rcases open_ints Try.underlying35 Try.underlying3 (by kernel_rfl) hf with ⟨hcs, _⟩ | ⟨x, l, c, zs, hcs, _, hl, hm, hz, _, hcell, hwz⟩
  · simp [Value.cells] at hcs
    obtain ⟨rfl, rfl, rfl⟩ := hcs
    exact ⟨[], rfl, .inl rfl, by simp⟩
  · simp [Value.cells] at hcs
    obtain ⟨rfl, rfl, rfl⟩ := hcs
    have hz' : zs.length = cap := by simpa using hz
    refine ⟨zs.take len, by simp; omega, ?_, by simp; simp [maxLen] at hm; omega⟩
    by_cases h0 : len = 0
    · subst h0; exact .inl (by simp)
    · obtain ⟨D, off, rfl, hc⟩ := ints_at hcell (by omega)
      refine .inr ⟨D, off, rfl, World.block_lt_of_cell? W _ (hc 0 (by omega)), fun i z hi => ?_⟩
      have hlt : i < len := by have := (List.getElem?_eq_some_iff.1 hi).1; simp at this; omega
      rw [List.getElem?_take_of_lt hlt] at hi
      have := hc i (by omega)
      rw [List.getD, hi] at this
      exact this
end Go.Proofs.Ytenllemaccacgab
