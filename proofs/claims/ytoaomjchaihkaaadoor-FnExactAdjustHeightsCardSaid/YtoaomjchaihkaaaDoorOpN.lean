/-
  What an exact law that takes a list of runs is told of it: the list opened.
-/
import Derived.Test.YtoaomjchaihkaaaDoorLaw
import Derived.Test.YtoaomjchaihkaaaDoorFc
import Derived.Test.YtoaomjchaihkaaaDoorZa
import Derived.Deep.Slices
import Derived.ChangeOld
namespace Go.Proofs.YtoaomjchaihkaaaDoor
open Go.ChangeShapes Go.WideShapes Go.ChangeAt Go.RowKit Go.Joins Go.Deep
set_option linter.unusedVariables false

theorem laidOut : laidOutB Tryd.prog = true := by kernel_rfl

section
variable {H : Type} {enc : TypeId × Value → H} {P : Program}
/-- four cells that read as a struct of four ints -/
theorem four_ints {w : World} {base fuel : Nat} {spare : Nat → Bool} {held : Bool} {t ti : TypeId} {f0 f1 f2 f3 : Field} {cs : List Value} {x : DataW H × List MemPlace}
    (hs : P.underlying t = some (.struct #[f0, f1, f2, f3])) (hone : oneCellFields P #[f0, f1, f2, f3] = true) (hC : P.cellsOf t = 4) (hi : P.underlying ti = some (.int .i64)) (h0 : f0.type = ti) (h1 : f1.type = ti) (h2 : f2.type = ti) (h3 : f3.type = ti)
    (h : DataW.trod enc P w base spare held fuel t cs = some x) : ∃ r : Rn, cs = [.int .i64 r.f, .int .i64 r.t, .int .i64 r.s, .int .i64 r.g] := by
  obtain ⟨y0, y1, y2, y3, n, hx, hl, k0, k1, k2, k3⟩ := trod_struct4 hs h
  obtain ⟨o0, q0⟩ := hone_of hone 0 f0 rfl
  obtain ⟨o1, q1⟩ := hone_of hone 1 f1 rfl
  obtain ⟨o2, q2⟩ := hone_of hone 2 f2 rfl
  obtain ⟨o3, q3⟩ := hone_of hone 3 f3 rfl
  rw [hC] at hl
  match cs, hl with
  | [c0, c1, c2, c3], _ =>
    rw [o0, q0, h0] at k0
    rw [o1, q1, h1] at k1
    rw [o2, q2, h2] at k2
    rw [o3, q3, h3] at k3
    obtain ⟨a, e0, -, -⟩ := DataW.trod_int hi k0
    obtain ⟨b, e1, -, -⟩ := DataW.trod_int hi k1
    obtain ⟨c, e2, -, -⟩ := DataW.trod_int hi k2
    obtain ⟨d, e3, -, -⟩ := DataW.trod_int hi k3
    simp at e0 e1 e2 e3
    subst e0 e1 e2 e3
    exact ⟨⟨a, b, c, d⟩, rfl⟩
end

theorem open_runs {H : Type} {enc : TypeId × Value → H} {W : World} {a : Option Addr} {len cap : Nat} {d : DataW H} {p : List MemPlace}
    (h : DataW.Trod enc Tryd.prog W 0 (fun _ => true) true 55 (.slice a len cap) d p) : ∃ rs : List Rn, len = rs.length ∧ Runs W a rs ∧ rs.length ≤ 9223372036854775807 := by
  obtain ⟨fuel, hf⟩ := h
  rcases open_slice Tryd.underlying55 hf with ⟨hcs, _⟩ | ⟨x, l, c, m, n, D, Pl, hcs, _, hl, hm, hmm, _, hel⟩
  · simp [Value.cells] at hcs
    obtain ⟨rfl, rfl, rfl⟩ := hcs
    exact ⟨[], rfl, .inl rfl, by simp⟩
  · simp [Value.cells] at hcs
    obtain ⟨rfl, rfl, rfl⟩ := hcs
    simp at hmm
    subst hmm
    have hC : Tryd.prog.cellsOf 104 = 4 := by kernel_rfl
    have hr : ∀ i, i < m → ∃ r : Rn, ∀ j, j < 4 → W.cell? (x.add (i * 4 + j)) = [Value.int .i64 r.f, .int .i64 r.t, .int .i64 r.s, .int .i64 r.g][j]? := by
      intro i hi
      obtain ⟨cs, hc, ht⟩ := hel i hi
      rw [hC] at hc
      obtain ⟨r, rfl⟩ := four_ints Tryd.underlying104 (by kernel_rfl) hC Tryd.underlying3 rfl rfl rfl rfl ht
      obtain ⟨_, _, hcc⟩ := World.cells?_some hc
      refine ⟨r, fun j hj => ?_⟩
      have := hcc j hj
      have e : (x.add (i * 4)).add j = x.add (i * 4 + j) := by
        by_cases h1 : i * 4 = 0 <;> by_cases h2 : j = 0 <;> simp [Addr.add, h1, h2, Nat.add_assoc]
      rw [e] at this
      exact this
    obtain ⟨R, hR⟩ := choose_lt hr
    refine ⟨(List.range len).map R, by simp, ?_, by simp; simp [maxLen] at hm; omega⟩
    by_cases h0 : len = 0
    · subst h0; exact .inl (by simp)
    · obtain ⟨xb, xo, xs⟩ := x
      have hx : xs = none := by
        have := hR 0 (by omega) 0 (by omega)
        simpa [Addr.add] using World.cell?_spot (by simpa [Addr.add] using this)
      subst hx
      refine .inr ⟨xb, xo, rfl, ?_, fun i r hi => ?_⟩
      · have := hR 0 (by omega) 0 (by omega)
        exact World.block_lt_of_cell? W _ (by simpa [Addr.add] using this)
      · have hlt : i < len := by have := (List.getElem?_eq_some_iff.1 hi).1; simpa using this
        have e : r = R i := by simp [hlt] at hi; exact hi.symm
        subst e
        have g0 := hR i (by omega) 0 (by omega)
        have g1 := hR i (by omega) 1 (by omega)
        have g2 := hR i (by omega) 2 (by omega)
        have g3 := hR i (by omega) 3 (by omega)
        simp [Go.WideShapes.add_plain] at g0 g1 g2 g3
        exact ⟨g0, by rw [Nat.add_assoc]; exact g1, by rw [Nat.add_assoc]; exact g2, by rw [Nat.add_assoc]; exact g3⟩

theorem open_nums {H : Type} {enc : TypeId × Value → H} {W : World} {a : Option Addr} {len cap : Nat} {d : DataW H} {p : List MemPlace}
    (h : DataW.Trod enc Tryd.prog W 0 (fun _ => true) true 39 (.slice a len cap) d p) : ∃ zs : List Int, len = zs.length ∧ Ints W a zs ∧ zs.length ≤ 9223372036854775807 := by
  obtain ⟨fuel, hf⟩ := h
  rcases open_ints Tryd.underlying39 Tryd.underlying3 (by kernel_rfl) hf with ⟨hcs, _⟩ | ⟨x, l, c, zs, hcs, _, hl, hm, hz, _, hcell, hwz⟩
  · simp [Value.cells] at hcs
    obtain ⟨rfl, rfl, rfl⟩ := hcs
    exact ⟨[], rfl, .inl rfl, by simp⟩
  · simp [Value.cells] at hcs
    obtain ⟨rfl, rfl, rfl⟩ := hcs
    have hz' : zs.length = cap := by simpa using hz
    refine ⟨zs.take len, by simp; omega, ?_, by simp; simp [maxLen] at hm; omega⟩
    by_cases h0 : len = 0
    · subst h0; exact .inl (by simp)
    · obtain ⟨D, off, rfl, hc⟩ := ints_at hcell (by omega)
      refine .inr ⟨D, off, rfl, World.block_lt_of_cell? W _ (hc 0 (by omega)), fun i z hi => ?_⟩
      have hlt : i < len := by have := (List.getElem?_eq_some_iff.1 hi).1; simp at this; omega
      rw [List.getElem?_take_of_lt hlt] at hi
      have := hc i (by omega)
      rw [List.getD, hi] at this
      exact this
end Go.Proofs.YtoaomjchaihkaaaDoor
