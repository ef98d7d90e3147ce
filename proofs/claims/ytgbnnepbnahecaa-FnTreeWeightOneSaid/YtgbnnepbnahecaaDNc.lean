/-
  What the draws of the laws on linked nodes and on turned runs give: nets of at most eight runs, by new memory alone.
-/
import Derived.Test.YtgbnnepbnahecaaDNb
import Derived.Test.YtgbnnepbnahecaaRegB
namespace Go.Proofs.Ytgbnnepbnahecaa
open Go.RowKit
set_option linter.unusedVariables false

theorem runsIn_below {w0 w w' : World} {R g cap : Nat} {rs : List Rn} (hb : Below w0.heap.size w0 w) (hR : w0.heap.size ≤ R) (h : RunsIn w w' R g cap rs) : Below w0.heap.size w0 w' := below_gb hb h.2.2 hR hb.size
theorem runs_tail {w : World} {g o : Nat} {rs : List Rn} (h : Runs w (some ⟨g, o, none⟩) rs) : Runs w (some ⟨g, o + 4, none⟩) rs.tail := by
  rcases h with rfl | ⟨B, o', e, hB, hc⟩
  · exact .inl rfl
  · simp at e
    obtain ⟨rfl, rfl⟩ := e
    refine .inr ⟨g, o + 4, rfl, hB, fun i r hi => ?_⟩
    have := hc (i + 1) r (by simpa using hi)
    rw [show o + 4 + i * 4 = o + (i + 1) * 4 by omega]
    exact this
/-- what such a draw gives -/
def NetOf (w : World) (N : Nat) (rs : List Rn) (p : Option Addr) (w' : World) : Prop := (2 ≤ N ∧ N ≤ 6) ∧ rs.length ≤ 8 ∧ Runs w' p rs ∧ Below w.heap.size w w'

end Go.Proofs.Ytgbnnepbnahecaa
