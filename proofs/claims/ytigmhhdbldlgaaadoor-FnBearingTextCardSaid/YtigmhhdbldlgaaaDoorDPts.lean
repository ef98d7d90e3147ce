/-
  What the draws of two and of three points give: whatever the code, points whose coordinates lie within 10001 (a third one within 50000), by new memory alone.
-/
import Derived.Test.YtigmhhdbldlgaaaDoorDPt
namespace Go.Proofs.YtigmhhdbldlgaaaDoor
open Go.RowKit
set_option linter.unusedVariables false

theorem code_below {w w' : World} {v : Value} (h : Code' w v) (hb : Below w.heap.size w w') : Code' w' v := by
  rcases h with ⟨a, c, rfl⟩ | ⟨D, off, len, cap, f, rfl, h1, h2, h3, h4, h5⟩
  · exact .inl ⟨a, c, rfl⟩
  · refine .inr ⟨D, off, len, cap, f, rfl, h1, h2, h3, Nat.lt_of_lt_of_le h4 hb.size, fun j hj => ?_⟩
    rw [hb.cell (p := ⟨D, off + j, none⟩) h4]
    exact h5 j hj

theorem cell_gb_keep {w w' : World} {b o R : Nat} {v : Value} (hg : w.grownBy w' (some R)) (hb : b ≠ R) (h : w.cell? ⟨b, o, none⟩ = some v) : w'.cell? ⟨b, o, none⟩ = some v :=
  ((gcell hg).1 b o (World.block_lt_of_cell? w _ h) hb).trans h
def Near (a b : Int) : Prop := -50000 ≤ a ∧ a ≤ 50000 ∧ -50000 ≤ b ∧ b ≤ 50000
theorem near {a b : Int} (h1 : -10001 ≤ a) (h2 : a ≤ 10001) (h3 : -10001 ≤ b) (h4 : b ≤ 10001) : Near a b := ⟨by omega, by omega, by omega, by omega⟩
def D2 (w : World) (e : Ending) (w' : World) : Prop :=
  ∃ a b c d : Int, Near a b ∧ Near c d ∧ e = .returned (.tuple #[.agg #[.int .i64 a, .int .i64 b], .agg #[.int .i64 c, .int .i64 d]]) ∧ Below w.heap.size w w'
def D3 (w : World) (e : Ending) (w' : World) : Prop :=
  ∃ a b c d u v : Int, e = .returned (.tuple #[.agg #[.int .i64 a, .int .i64 b], .agg #[.int .i64 c, .int .i64 d], .agg #[.int .i64 u, .int .i64 v]]) ∧ Below w.heap.size w w'
def D3R (R : Nat) (w : World) (e : Ending) (w' : World) : Prop :=
  ∃ a b c d u v : Int, e = .returned (.tuple #[.agg #[.int .i64 a, .int .i64 b], .agg #[.int .i64 c, .int .i64 d], .agg #[.int .i64 u, .int .i64 v]]) ∧ w.grownBy w' (some R)

end Go.Proofs.YtigmhhdbldlgaaaDoor
