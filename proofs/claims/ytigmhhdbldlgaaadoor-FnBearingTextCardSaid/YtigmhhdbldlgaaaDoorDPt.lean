/-
  What the draws of points give: whatever the code, points whose coordinates lie within 20000 (invalid ones among them), by new memory alone.
-/
import Derived.Test.YtigmhhdbldlgaaaDoorRdr
import Derived.Deep.RegionHeld3
namespace Go.Proofs.YtigmhhdbldlgaaaDoor
open Go.RowKit
set_option linter.unusedVariables false

def DPt (k R : Nat) (w : World) (e : Ending) (w' : World) : Prop :=
  ∃ a b : Int, -10001 ≤ a ∧ a ≤ 10001 ∧ -10001 ≤ b ∧ b ≤ 10001 ∧ e = .returned (.agg #[.int .i64 a, .int .i64 b]) ∧ Rdr (k + 5) w' R ∧ w.grownBy w' (some R)
theorem lt3 {m : Int} (h0 : 0 ≤ m) (h1 : m < 3) : m = 0 ∨ m = 1 ∨ m = 2 := by omega

theorem two_set {W : World} {B : Nat} {u v x y : Value} (c0 : W.cell? ⟨B, 0, none⟩ = some u) (c1 : W.cell? ⟨B, 1, none⟩ = some v) :
    ((W.setCell ⟨B, 0, none⟩ x).setCell ⟨B, 1, none⟩ y).cell? ⟨B, 0, none⟩ = some x ∧ ((W.setCell ⟨B, 0, none⟩ x).setCell ⟨B, 1, none⟩ y).cell? ⟨B, 1, none⟩ = some y := by
  simp [go_sem, c0, c1]
theorem end_pt {fn : Func} {R : Ending → World → Prop} {a : Act} {W : World} {B s : Nat} {u v x y : Value} (hr : fn.results = #[ResultVar.cell s 24]) (h2 : a.tmps[s]?.getD undef = .pointer (some ⟨B, 0, none⟩)) (hd : a.defers = [])
    (c0 : W.cell? ⟨B, 0, none⟩ = some u) (c1 : W.cell? ⟨B, 1, none⟩ = some v) (h : R (.returned (.agg #[x, y])) ((W.setCell ⟨B, 0, none⟩ x).setCell ⟨B, 1, none⟩ y)) :
    bodyPost Tryd.prog fn R .ret a ((W.setCell ⟨B, 0, none⟩ x).setCell ⟨B, 1, none⟩ y) := by
  obtain ⟨d0, d1⟩ := two_set (x := x) (y := y) c0 c1
  exact bodyPost_ret (by simp [results, hr, go_sem, h2, d0, d1]) hd h

end Go.Proofs.YtigmhhdbldlgaaaDoor
