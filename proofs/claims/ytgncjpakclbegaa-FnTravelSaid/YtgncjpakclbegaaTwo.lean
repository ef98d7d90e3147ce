/-
  A block of two integers, known whole: what it reads as, and what stores and new memory leave of it. No function of the program is named.
-/
import Derived.Test.YtgncjpakclbegaaZa
import Derived.OneCell
import Derived.Lib.SmallJoins
namespace Go.Proofs.Ytgncjpakclbegaa
open Go.RowKit

def Two (T : TypeId) (w : World) (B : Nat) (x y : Int) : Prop := w.heap[B]? = some (.cells #[.int .i64 x, .int .i64 y] T (0, 0))
section
variable {T : TypeId} {w w' : World} {B : Nat} {x y u v : Int}
theorem Two.lt (h : Two T w B x y) : B < w.heap.size := (Array.getElem?_eq_some_iff.1 h).1
theorem Two.c0 (h : Two T w B x y) : w.cell? ⟨B, 0, none⟩ = some (.int .i64 x) := by unfold Two at h; simp [World.cell?, h]
theorem Two.c1 (h : Two T w B x y) : w.cell? ⟨B, 1, none⟩ = some (.int .i64 y) := by unfold Two at h; simp [World.cell?, h]
theorem Two.f0 (h : Two T w B x y) : w.frozen? ⟨B, 0, none⟩ = false := by unfold Two at h; simp [World.frozen?, h]
theorem Two.f1 (h : Two T w B x y) : w.frozen? ⟨B, 1, none⟩ = false := by unfold Two at h; simp [World.frozen?, h]
theorem Two.set (h : Two T w B x y) (u v : Int) : Two T ((w.setCell ⟨B, 0, none⟩ (.int .i64 u)).setCell ⟨B, 1, none⟩ (.int .i64 v)) B u v := by
  unfold Two at *
  have h1 : (w.setCell ⟨B, 0, none⟩ (.int .i64 u)).heap[B]? = some (.cells #[.int .i64 u, .int .i64 y] T (0, 0)) := by rw [Joins.block_setCell h]; simp
  rw [Joins.block_setCell h1]; simp
theorem Two.below (h : Two T w B x y) (hb : Below w.heap.size w w') : Two T w' B x y := by
  have hl := h.lt
  unfold Two at *
  rw [hb.block B hl]; exact h
theorem Two.new (w : World) (x y : Int) : Two T (w.alloc (.cells #[.int .i64 x, .int .i64 y] T)) w.heap.size x y := by
  unfold Two
  show (w.heap.push _)[w.heap.size]? = _
  simp
end
end Go.Proofs.Ytgncjpakclbegaa
