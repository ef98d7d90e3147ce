/-
  What an exact law that takes lists of lists of numbers is told of them: the lists opened.
-/
import Derived.Test.YtenllemaccacgabShOpen
import Derived.Test.YtenllemaccacgabZc
import Derived.Deep.Matrix
namespace Go.Proofs.Ytenllemaccacgab
open Go.ChangeShapes Go.WideShapes Go.ChangeAt Go.RowKit Go.Joins Go.Deep
set_option linter.unusedVariables false

theorem open_grid {H : Type} {enc : TypeId × Value → H} {W : World} {a : Option Addr} {len cap : Nat} {d : DataW H} {p : List MemPlace}
    (h : DataW.Trod enc Try.prog W 0 (fun _ => true) true 24 (.slice a len cap) d p) : ∃ L : List (List Int), len = L.length ∧ GRead W a L ∧ L.length ≤ 9223372036854775807 ∧ ∀ r ∈ L, r.length ≤ 9223372036854775807 := by
  obtain ⟨fuel, hf⟩ := h
  rcases open_int_rows Try.underlying24 Try.underlying35 Try.underlying3 (by kernel_rfl) (by kernel_rfl) hf with ⟨hcs, _⟩ | ⟨x, l, c, A, Ln, C, Z, hcs, _, hl, hm, _, hx⟩
  · simp [Value.cells] at hcs
    obtain ⟨rfl, rfl, rfl⟩ := hcs
    exact ⟨[], rfl, .inl rfl, by simp, by simp⟩
  · simp [Value.cells] at hcs
    obtain ⟨rfl, rfl, rfl⟩ := hcs
    have hrow : ∀ i r, ((List.range len).map (fun i => (Z i).take (Ln i)))[i]? = some r → i < len ∧ r = (Z i).take (Ln i) := fun i r hi => by
      have hil := (List.getElem?_eq_some_iff.1 hi).1
      rw [List.length_map, List.length_range] at hil
      rw [List.getElem?_map, List.getElem?_range hil] at hi
      simp at hi
      exact ⟨hil, hi.symm⟩
    have hlen : ∀ i, i < len → ((Z i).take (Ln i)).length = Ln i := fun i hi => by
      obtain ⟨_, h1, _, h3, _⟩ := hx i (by omega)
      rw [List.length_take]; omega
    refine ⟨(List.range len).map (fun i => (Z i).take (Ln i)), by simp, ?_, by simp; simp [maxLen] at hm; omega, fun r hr => ?_⟩
    · by_cases h0 : len = 0
      · subst h0; exact .inl (by simp)
      · obtain ⟨B, o, spot⟩ := x
        have hspot : spot = none := by simpa [Addr.add] using World.cell?_spot (hx 0 (by omega)).1
        subst hspot
        refine .inr ⟨B, o, rfl, World.block_lt_of_cell? W _ (hx 0 (by omega)).1, fun i r hi => ?_⟩
        obtain ⟨hil, rfl⟩ := hrow i r hi
        obtain ⟨h1, h2, h3, h4, h5, h6, h7⟩ := hx i (by omega)
        refine ⟨A i, C i, ?_, ?_, ?_⟩
        · rw [hlen i hil, ← Go.WideShapes.add_plain]; exact h1
        · rw [hlen i hil]; exact h2
        · by_cases hz : Ln i = 0
          · exact .inl (by rw [hz]; simp)
          · cases hA : A i with
            | none => have := h6 hA; omega
            | some a' =>
              obtain ⟨_, h8⟩ := h7 a' hA
              obtain ⟨D, off, rfl, hc⟩ := ints_at (zs := Z i) (fun j hj => h8 j (by omega)) (by omega)
              refine .inr ⟨D, off, rfl, World.block_lt_of_cell? W _ (hc 0 (by omega)), fun j z hj => ?_⟩
              have hjl : j < Ln i := by have := (List.getElem?_eq_some_iff.1 hj).1; rw [hlen i hil] at this; exact this
              rw [List.getElem?_take_of_lt hjl] at hj
              have := hc j (by omega)
              rw [List.getD, hj] at this
              exact this
    · obtain ⟨i, hi⟩ := List.getElem?_of_mem hr
      obtain ⟨hil, rfl⟩ := hrow i r hi
      rw [hlen i hil]
      obtain ⟨_, h1, h2, _⟩ := hx i (by omega)
      simp [maxLen] at h2; omega
end Go.Proofs.Ytenllemaccacgab
