import Derived.Test.YtddmbjobibljaaaGreatDoorQg
namespace Go.Proofs.YtddmbjobibljaaaGreatDoor
open Go.RowKit

theorem iAdd_any (t l s m : Int) (w : World) :
    Calls Tryz.prog 15 #[.agg #[.int .i64 t, .int .i64 l], .agg #[.int .i64 s, .int .i64 m]] w fun e w' => e = .returned (.tuple #[.agg #[.int .i64 (Quo.gT (Quo.both t l s m) (t * m + s * l) (l * m)), .int .i64 (Quo.gL (Quo.both t l s m) (t * m + s * l) (l * m))], .bool (Quo.gOk (Quo.both t l s m) (t * m + s * l) (l * m))]) ∧ Below w.heap.size w w' := by
  by_cases h : Quo.both t l s m = true
  · have h' := h
    unfold Quo.both at h'
    simp at h'
    have g1 : Quo.gT (Quo.both t l s m) (t * m + s * l) (l * m) = Quo.rT (t * m + s * l) (l * m) := by unfold Quo.gT; simp [h]
    have g2 : Quo.gL (Quo.both t l s m) (t * m + s * l) (l * m) = Quo.rL (t * m + s * l) (l * m) := by unfold Quo.gL; simp [h]
    have g3 : Quo.gOk (Quo.both t l s m) (t * m + s * l) (l * m) = Quo.rOk (t * m + s * l) (l * m) := by unfold Quo.gOk; simp [h]
    rw [g1, g2, g3]
    clear h g1 g2 g3
    obtain ⟨h1, h2⟩ := h'
    by_cases k1 : l = 1 <;> by_cases k2 : m = 1
    · subst k1 k2; exact iAdd_11 t s w h1 h2
    · subst k1; exact iAdd_1m t s m w h1 h2 k2
    · subst k2; exact iAdd_l1 t l s w h1 h2 k1
    · exact iAdd_lm t l s m w h1 h2 k1 k2
  · have h' : Quo.both t l s m = false := by simpa using h
    have g1 : Quo.gT (Quo.both t l s m) (t * m + s * l) (l * m) = 0 := by unfold Quo.gT; simp [h']
    have g2 : Quo.gL (Quo.both t l s m) (t * m + s * l) (l * m) = 0 := by unfold Quo.gL; simp [h']
    have g3 : Quo.gOk (Quo.both t l s m) (t * m + s * l) (l * m) = false := by unfold Quo.gOk; simp [h']
    rw [g1, g2, g3]
    exact iAdd_no t l s m w h'

theorem iTimes_any (t l s m : Int) (w : World) :
    Calls Tryz.prog 74 #[.agg #[.int .i64 t, .int .i64 l], .agg #[.int .i64 s, .int .i64 m]] w fun e w' => e = .returned (.tuple #[.agg #[.int .i64 (Quo.gT (Quo.both t l s m) (t * s) (l * m)), .int .i64 (Quo.gL (Quo.both t l s m) (t * s) (l * m))], .bool (Quo.gOk (Quo.both t l s m) (t * s) (l * m))]) ∧ Below w.heap.size w w' := by
  by_cases h : Quo.both t l s m = true
  · have h' := h
    unfold Quo.both at h'
    simp at h'
    have g1 : Quo.gT (Quo.both t l s m) (t * s) (l * m) = Quo.rT (t * s) (l * m) := by unfold Quo.gT; simp [h]
    have g2 : Quo.gL (Quo.both t l s m) (t * s) (l * m) = Quo.rL (t * s) (l * m) := by unfold Quo.gL; simp [h]
    have g3 : Quo.gOk (Quo.both t l s m) (t * s) (l * m) = Quo.rOk (t * s) (l * m) := by unfold Quo.gOk; simp [h]
    rw [g1, g2, g3]
    clear h g1 g2 g3
    obtain ⟨h1, h2⟩ := h'
    by_cases k1 : l = 1 <;> by_cases k2 : m = 1
    · subst k1 k2; exact iTimes_11 t s w h1 h2
    · subst k1; exact iTimes_1m t s m w h1 h2 k2
    · subst k2; exact iTimes_l1 t l s w h1 h2 k1
    · exact iTimes_lm t l s m w h1 h2 k1 k2
  · have h' : Quo.both t l s m = false := by simpa using h
    have g1 : Quo.gT (Quo.both t l s m) (t * s) (l * m) = 0 := by unfold Quo.gT; simp [h']
    have g2 : Quo.gL (Quo.both t l s m) (t * s) (l * m) = 0 := by unfold Quo.gL; simp [h']
    have g3 : Quo.gOk (Quo.both t l s m) (t * s) (l * m) = false := by unfold Quo.gOk; simp [h']
    rw [g1, g2, g3]
    exact iTimes_no t l s m w h'

theorem iTake_core (t l s m s' : Int) (w : World) (hs : wrap64 (-s) = s') :
    Calls Tryz.prog 42 #[.agg #[.int .i64 t, .int .i64 l], .agg #[.int .i64 s, .int .i64 m]] w fun e w' => e = .returned (.tuple #[.agg #[.int .i64 (Quo.gT (Quo.both t l s' m) (t * m + s' * l) (l * m)), .int .i64 (Quo.gL (Quo.both t l s' m) (t * m + s' * l) (l * m))], .bool (Quo.gOk (Quo.both t l s' m) (t * m + s' * l) (l * m))]) ∧ Below w.heap.size w w' := by
  subst hs
  go_enter Tryz.func42, Tryz.ntmps42
  go_wp2_with ((go_at_call 15; (with_reducible refine (iAdd_any _ _ _ _ _).mono ?_); rintro e wn ⟨rfl, hbn⟩; obtain ⟨hcn, hfn⟩ := bcell hbn; have hzn : w.heap.size < wn.heap.size := (by have := hbn.size; (try simp at this); omega); have hzn1 : w.heap.size + 1 < wn.heap.size := (by have := hbn.size; (try simp at this); omega); have hzn2 : w.heap.size + 1 + 1 < wn.heap.size := (by have := hbn.size; (try simp at this); omega)))
  have c0 : wn.cell? ⟨w.heap.size + 1 + 1, 0, none⟩ = some (.int .i64 0) := by simp [*, go_sem]
  have c1 : wn.cell? ⟨w.heap.size + 1 + 1, 1, none⟩ = some (.int .i64 0) := by simp [*, go_sem]
  exact bodyPost_ret (v := .tuple #[.agg #[.int .i64 (Quo.gT (Quo.both t l (wrap64 (-s)) m) (t * m + wrap64 (-s) * l) (l * m)), .int .i64 (Quo.gL (Quo.both t l (wrap64 (-s)) m) (t * m + wrap64 (-s) * l) (l * m))], .bool (Quo.gOk (Quo.both t l (wrap64 (-s)) m) (t * m + wrap64 (-s) * l) (l * m))]) (by simp [results, Tryz.results42, go_sem, c0, c1]) rfl ⟨rfl, (by repeat (first | assumption | exact Below.refl _ _ | (refine below_chain ?_ (by assumption) (by first | omega | (simp <;> omega) | simp)) | (refine Below.alloc ?_ (by first | omega | (simp <;> omega) | simp) _) | (apply below_drewN) | (apply below_drew) | (refine Below.setCell ?_ (by first | omega | (simp <;> omega) | simp) _)))⟩

theorem iTake_any (t l s m : Int) (w : World) (h1 : -9223372036854775808 ≤ s) (h2 : s ≤ 9223372036854775807) :
    Calls Tryz.prog 42 #[.agg #[.int .i64 t, .int .i64 l], .agg #[.int .i64 s, .int .i64 m]] w fun e w' => e = .returned (.tuple #[.agg #[.int .i64 (Quo.gT (Quo.both t l s m) (t * m - s * l) (l * m)), .int .i64 (Quo.gL (Quo.both t l s m) (t * m - s * l) (l * m))], .bool (Quo.gOk (Quo.both t l s m) (t * m - s * l) (l * m))]) ∧ Below w.heap.size w w' := by
  by_cases h : s = -9223372036854775808
  · subst h
    have k : Quo.both t l (-9223372036854775808) m = false := by
      unfold Quo.both; rw [Quo.qv_out (t := -9223372036854775808) (by omega)]; simp
    have := iTake_core t l (-9223372036854775808) m (-9223372036854775808) w (by unfold wrap64; omega)
    rw [k] at this ⊢
    exact this
  · have k : Quo.both t l (-s) m = Quo.both t l s m := by
      unfold Quo.both
      have := Quo.qv_neg s m h1 h2
      rw [if_neg h] at this
      rw [this]
    have := iTake_core t l s m (-s) w (by unfold wrap64; omega)
    rw [k, show t * m + -s * l = t * m - s * l by rw [Int.neg_mul]; omega] at this
    exact this

end Go.Proofs.YtddmbjobibljaaaGreatDoor
