import Derived.Test.YtlbhfgckdbmldaaDoorQf
namespace Go.Proofs.YtlbhfgckdbmldaaDoor
open Go.RowKit

theorem iAdd_any (t l s m : Int) (w : World) :
    Calls Tryd.prog 8 #[.agg #[.int .i64 t, .int .i64 l], .agg #[.int .i64 s, .int .i64 m]] w fun e w' => e = .returned (.tuple #[.agg #[.int .i64 (Quo.gT (Quo.both t l s m) (t * m + s * l) (l * m)), .int .i64 (Quo.gL (Quo.both t l s m) (t * m + s * l) (l * m))], .bool (Quo.gOk (Quo.both t l s m) (t * m + s * l) (l * m))]) ∧ Below w.heap.size w w' := by
  by_cases h : Quo.both t l s m = true
  · have h' := h
    unfold Quo.both at h'
    simp at h'
    have g1 : Quo.gT (Quo.both t l s m) (t * m + s * l) (l * m) = Quo.rT (t * m + s * l) (l * m) := by unfold Quo.gT; simp [h]
    have g2 : Quo.gL (Quo.both t l s m) (t * m + s * l) (l * m) = Quo.rL (t * m + s * l) (l * m) := by unfold Quo.gL; simp [h]
    have g3 : Quo.gOk (Quo.both t l s m) (t * m + s * l) (l * m) = Quo.rOk (t * m + s * l) (l * m) := by unfold Quo.gOk; simp [h]
    rw [g1, g2, g3]
    clear h g1 g2 g3
    obtain ⟨h1, h2⟩ := h'
    by_cases k1 : l = 1 <;> by_cases k2 : m = 1
    · subst k1 k2; exact iAdd_11 t s w h1 h2
    · subst k1; exact iAdd_1m t s m w h1 h2 k2
    · subst k2; exact iAdd_l1 t l s w h1 h2 k1
    · exact iAdd_lm t l s m w h1 h2 k1 k2
  · have h' : Quo.both t l s m = false := by simpa using h
    have g1 : Quo.gT (Quo.both t l s m) (t * m + s * l) (l * m) = 0 := by unfold Quo.gT; simp [h']
    have g2 : Quo.gL (Quo.both t l s m) (t * m + s * l) (l * m) = 0 := by unfold Quo.gL; simp [h']
    have g3 : Quo.gOk (Quo.both t l s m) (t * m + s * l) (l * m) = false := by unfold Quo.gOk; simp [h']
    rw [g1, g2, g3]
    exact iAdd_no t l s m w h'
end Go.Proofs.YtlbhfgckdbmldaaDoor
