/-
  What an exact law that takes a list of points is told of it: the list opened.
-/
import Derived.Test.YtgncjpakclbegaaLaw
import Derived.Test.YtgncjpakclbegaaFc
import Derived.Test.YtgncjpakclbegaaZa
import Derived.Test.YtgncjpakclbegaaYma
import Derived.Deep.Slices
import Derived.ChangeOld
namespace Go.Proofs.Ytgncjpakclbegaa
open Go.ChangeShapes Go.WideShapes Go.ChangeAt Go.RowKit Go.Joins Go.Deep
set_option linter.unusedVariables false

theorem laidOut : laidOutB Try.prog = true := by kernel_rfl

section
variable {H : Type} {enc : TypeId × Value → H} {P : Program}
/-- two cells that read as a struct of two ints -/
theorem two_ints {w : World} {base fuel : Nat} {spare : Nat → Bool} {held : Bool} {t ti : TypeId} {f0 f1 : Field} {cs : List Value} {x : DataW H × List MemPlace}
    (hs : P.underlying t = some (.struct #[f0, f1])) (hone : oneCellFields P #[f0, f1] = true) (hC : P.cellsOf t = 2) (hi : P.underlying ti = some (.int .i64)) (h0 : f0.type = ti) (h1 : f1.type = ti)
    (h : DataW.trod enc P w base spare held fuel t cs = some x) : ∃ r : Poly.P2, cs = [.int .i64 r.1, .int .i64 r.2] := by
  obtain ⟨y0, y1, n, hx, hl, k0, k1⟩ := trod_struct2 hs h
  obtain ⟨o0, q0⟩ := hone_of hone 0 f0 rfl
  obtain ⟨o1, q1⟩ := hone_of hone 1 f1 rfl
  rw [hC] at hl
  match cs, hl with
  | [c0, c1], _ =>
    rw [o0, q0, h0] at k0
    rw [o1, q1, h1] at k1
    obtain ⟨a, e0, -, -⟩ := DataW.trod_int hi k0
    obtain ⟨b, e1, -, -⟩ := DataW.trod_int hi k1
    simp at e0 e1
    subst e0 e1
    exact ⟨(a, b), rfl⟩
end

theorem open_pts {H : Type} {enc : TypeId × Value → H} {W : World} {a : Option Addr} {len cap : Nat} {d : DataW H} {p : List MemPlace}
    (h : DataW.Trod enc Try.prog W 0 (fun _ => true) true 48 (.slice a len cap) d p) : ∃ L : List Poly.P2, len = L.length ∧ Ints W a (Poly.fl L) ∧ L.length ≤ 9223372036854775807 := by
  obtain ⟨fuel, hf⟩ := h
  rcases open_slice Try.underlying48 hf with ⟨hcs, _⟩ | ⟨x, l, c, m, n, D, Pl, hcs, _, hl, hm, hmm, _, hel⟩
  · simp [Value.cells] at hcs
    obtain ⟨rfl, rfl, rfl⟩ := hcs
    exact ⟨[], rfl, .inl rfl, by simp⟩
  · simp [Value.cells] at hcs
    obtain ⟨rfl, rfl, rfl⟩ := hcs
    simp at hmm
    subst hmm
    have hC : Try.prog.cellsOf 52 = 2 := by kernel_rfl
    have hr : ∀ i, i < m → ∃ r : Poly.P2, ∀ j, j < 2 → W.cell? (x.add (i * 2 + j)) = [Value.int .i64 r.1, .int .i64 r.2][j]? := by
      intro i hi
      obtain ⟨cs, hc, ht⟩ := hel i hi
      rw [hC] at hc
      obtain ⟨r, rfl⟩ := two_ints Try.underlying52 (by kernel_rfl) hC Try.underlying3 rfl rfl ht
      obtain ⟨_, _, hcc⟩ := World.cells?_some hc
      refine ⟨r, fun j hj => ?_⟩
      have := hcc j hj
      have e : (x.add (i * 2)).add j = x.add (i * 2 + j) := by
        by_cases h1 : i * 2 = 0 <;> by_cases h2 : j = 0 <;> simp [Addr.add, h1, h2, Nat.add_assoc]
      rw [e] at this
      exact this
    obtain ⟨R, hR⟩ := choose_lt hr
    refine ⟨(List.range len).map R, by simp, ?_, by simp; simp [maxLen] at hm; omega⟩
    by_cases h0 : len = 0
    · subst h0; exact .inl (by simp [Poly.fl])
    · obtain ⟨xb, xo, xs⟩ := x
      have hx : xs = none := by
        have := hR 0 (by omega) 0 (by omega)
        simpa [Addr.add] using World.cell?_spot (by simpa [Addr.add] using this)
      subst hx
      refine .inr ⟨xb, xo, rfl, ?_, fun i z hi => ?_⟩
      · have := hR 0 (by omega) 0 (by omega)
        exact World.block_lt_of_cell? W _ (by simpa [Addr.add] using this)
      · have hlt : i < ((List.range len).map R).length * 2 := by have := (List.getElem?_eq_some_iff.1 hi).1; rw [Poly.fl_len] at this; exact this
        simp at hlt
        have hk : i / 2 < len := by omega
        have hp : ((List.range len).map R)[i / 2]? = some (R (i / 2)) := by simp [hk]
        have hf := Poly.fl_at hp
        rcases Nat.mod_two_eq_zero_or_one i with h2 | h2
        · have e : i / 2 * 2 = i := by omega
          rw [e] at hf
          have g := hR (i / 2) (by omega) 0 (by omega)
          rw [Nat.add_zero, e] at g
          rw [hf.1] at hi
          simp at hi
          subst hi
          simpa [Go.WideShapes.add_plain] using g
        · have e : i / 2 * 2 + 1 = i := by omega
          rw [e] at hf
          have g := hR (i / 2) (by omega) 1 (by omega)
          rw [e] at g
          rw [hf.2] at hi
          simp at hi
          subst hi
          simpa [Go.WideShapes.add_plain] using g
end Go.Proofs.Ytgncjpakclbegaa
