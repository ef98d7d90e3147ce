import Derived.Test.YtddmbjobibljaaaGreatDoorQf
namespace Go.Proofs.YtddmbjobibljaaaGreatDoor
open Go.RowKit

theorem both_is (t l s m : Int) (c : Bool) (w : World) (h : Quo.both t l s m = c) :
    Calls Tryz.prog 80 #[.agg #[.int .i64 t, .int .i64 l], .agg #[.int .i64 s, .int .i64 m]] w fun e w' => e = .returned (.bool c) ∧ Below w.heap.size w w' := by
  by_cases h1 : Quo.qv t l = true
  · have h2 : Quo.qv s m = c := by rw [← h]; unfold Quo.both; simp [h1]
    have c1 := fun w => Lib.hid (svalid_is t l true w h1)
    have c2 := fun w => Lib.hid (svalid_is s m c w h2)
    clear h h1 h2
    go_enter Tryz.func80, Tryz.ntmps80
    go_wp2_with (first | (go_at_call 95; (with_reducible refine ((c1 _).out).mono ?_); rintro e wn ⟨rfl, hbn⟩; obtain ⟨hcn, hfn⟩ := bcell hbn; have hzn : w.heap.size < wn.heap.size := (by have := hbn.size; (try simp at this); omega); have hzn1 : w.heap.size + 1 < wn.heap.size := (by have := hbn.size; (try simp at this); omega)) | (go_at_call 95; (with_reducible refine ((c2 _).out).mono ?_); rintro e wn ⟨rfl, hbn⟩; obtain ⟨hcn, hfn⟩ := bcell hbn; have hzn : w.heap.size < wn.heap.size := (by have := hbn.size; (try simp at this); omega); have hzn1 : w.heap.size + 1 < wn.heap.size := (by have := hbn.size; (try simp at this); omega)))
    go_ret
    exact ⟨rfl, (by repeat (first | assumption | exact Below.refl _ _ | (refine below_chain ?_ (by assumption) (by first | omega | (simp <;> omega) | simp)) | (refine Below.alloc ?_ (by first | omega | (simp <;> omega) | simp) _) | (apply below_drewN) | (apply below_drew) | (refine Below.setCell ?_ (by first | omega | (simp <;> omega) | simp) _)))⟩
  · have h1' : Quo.qv t l = false := by simpa using h1
    have h2 : c = false := by rw [← h]; unfold Quo.both; simp [h1']
    subst h2
    have c1 := fun w => Lib.hid (svalid_is t l false w h1')
    clear h h1 h1'
    go_enter Tryz.func80, Tryz.ntmps80
    go_wp2_with ((go_at_call 95; (with_reducible refine ((c1 _).out).mono ?_); rintro e wn ⟨rfl, hbn⟩; obtain ⟨hcn, hfn⟩ := bcell hbn; have hzn : w.heap.size < wn.heap.size := (by have := hbn.size; (try simp at this); omega); have hzn1 : w.heap.size + 1 < wn.heap.size := (by have := hbn.size; (try simp at this); omega)))
    go_ret
    exact ⟨rfl, (by repeat (first | assumption | exact Below.refl _ _ | (refine below_chain ?_ (by assumption) (by first | omega | (simp <;> omega) | simp)) | (refine Below.alloc ?_ (by first | omega | (simp <;> omega) | simp) _) | (apply below_drewN) | (apply below_drew) | (refine Below.setCell ?_ (by first | omega | (simp <;> omega) | simp) _)))⟩

theorem sTake_any (t l s m : Int) (w : World) :
    Calls Tryz.prog 44 #[.agg #[.int .i64 t, .int .i64 l], .agg #[.int .i64 s, .int .i64 m]] w fun e w' => e = .returned (.tuple #[.agg #[.int .i64 (Quo.gT (Quo.both t l s m) (t * m - s * l) (l * m)), .int .i64 (Quo.gL (Quo.both t l s m) (t * m - s * l) (l * m))], .bool (Quo.gOk (Quo.both t l s m) (t * m - s * l) (l * m))]) ∧ Below w.heap.size w w' := by
  by_cases h : Quo.both t l s m = true
  · have h' := h
    unfold Quo.both at h'
    simp at h'
    obtain ⟨b1, b2, b3, b4, -⟩ := Quo.qv_true h'.1
    obtain ⟨b5, b6, b7, b8, -⟩ := Quo.qv_true h'.2
    clear h'
    obtain ⟨p1, p2⟩ := Quo.mul_bd b3 b4 (show -1000000000 ≤ m by omega) b6
    obtain ⟨p3, p4⟩ := Quo.mul_bd b7 b8 (show -1000000000 ≤ l by omega) b2
    obtain ⟨p5, p6⟩ := Quo.mul_bd (show -1000000000 ≤ l by omega) b2 (show -1000000000 ≤ m by omega) b6
    obtain ⟨p7, p8⟩ := Quo.mul_bd b3 b4 b7 b8
    have c1 := fun w => Lib.hid (both_is t l s m true w h)
    have g1 : Quo.gT (Quo.both t l s m) (t * m - s * l) (l * m) = Quo.rT (t * m - s * l) (l * m) := by unfold Quo.gT; simp [h]
    have g2 : Quo.gL (Quo.both t l s m) (t * m - s * l) (l * m) = Quo.rL (t * m - s * l) (l * m) := by unfold Quo.gL; simp [h]
    have g3 : Quo.gOk (Quo.both t l s m) (t * m - s * l) (l * m) = Quo.rOk (t * m - s * l) (l * m) := by unfold Quo.gOk; simp [h]
    rw [g1, g2, g3]
    clear h g1 g2 g3
    go_enter Tryz.func44, Tryz.ntmps44
    go_wp2_with (first | (go_at_call 80; (with_reducible refine ((c1 _).out).mono ?_); rintro e wn ⟨rfl, hbn⟩; obtain ⟨hcn, hfn⟩ := bcell hbn; have hzn : w.heap.size < wn.heap.size := (by have := hbn.size; (try simp at this); omega); have hzn1 : w.heap.size + 1 < wn.heap.size := (by have := hbn.size; (try simp at this); omega); have hzn2 : w.heap.size + 1 + 1 < wn.heap.size := (by have := hbn.size; (try simp at this); omega)) | (go_at_call 66; (with_reducible refine (sof_any _ _ _).mono ?_); rintro e wn ⟨rfl, hbn⟩; obtain ⟨hcn, hfn⟩ := bcell hbn; have hzn : w.heap.size < wn.heap.size := (by have := hbn.size; (try simp at this); omega); have hzn1 : w.heap.size + 1 < wn.heap.size := (by have := hbn.size; (try simp at this); omega); have hzn2 : w.heap.size + 1 + 1 < wn.heap.size := (by have := hbn.size; (try simp at this); omega)))
    have c0 : wn.cell? ⟨w.heap.size + 1 + 1, 0, none⟩ = some (.int .i64 0) := by simp [*, go_sem]
    have c1 : wn.cell? ⟨w.heap.size + 1 + 1, 1, none⟩ = some (.int .i64 0) := by simp [*, go_sem]
    exact bodyPost_ret (v := .tuple #[.agg #[.int .i64 (Quo.rT (t * m - s * l) (l * m)), .int .i64 (Quo.rL (t * m - s * l) (l * m))], .bool (Quo.rOk (t * m - s * l) (l * m))]) (by simp [results, Tryz.results44, go_sem, c0, c1]) rfl ⟨rfl, (by repeat (first | assumption | exact Below.refl _ _ | (refine below_chain ?_ (by assumption) (by first | omega | (simp <;> omega) | simp)) | (refine Below.alloc ?_ (by first | omega | (simp <;> omega) | simp) _) | (apply below_drewN) | (apply below_drew) | (refine Below.setCell ?_ (by first | omega | (simp <;> omega) | simp) _)))⟩
  · have h' : Quo.both t l s m = false := by simpa using h
    have c1 := fun w => Lib.hid (both_is t l s m false w h')
    have g1 : Quo.gT (Quo.both t l s m) (t * m - s * l) (l * m) = 0 := by unfold Quo.gT; simp [h']
    have g2 : Quo.gL (Quo.both t l s m) (t * m - s * l) (l * m) = 0 := by unfold Quo.gL; simp [h']
    have g3 : Quo.gOk (Quo.both t l s m) (t * m - s * l) (l * m) = false := by unfold Quo.gOk; simp [h']
    rw [g1, g2, g3]
    clear h h' g1 g2 g3
    go_enter Tryz.func44, Tryz.ntmps44
    go_wp2_with ((go_at_call 80; (with_reducible refine ((c1 _).out).mono ?_); rintro e wn ⟨rfl, hbn⟩; obtain ⟨hcn, hfn⟩ := bcell hbn; have hzn : w.heap.size < wn.heap.size := (by have := hbn.size; (try simp at this); omega); have hzn1 : w.heap.size + 1 < wn.heap.size := (by have := hbn.size; (try simp at this); omega); have hzn2 : w.heap.size + 1 + 1 < wn.heap.size := (by have := hbn.size; (try simp at this); omega)))
    have c0 : wn.cell? ⟨w.heap.size + 1 + 1, 0, none⟩ = some (.int .i64 0) := by simp [*, go_sem]
    have c1 : wn.cell? ⟨w.heap.size + 1 + 1, 1, none⟩ = some (.int .i64 0) := by simp [*, go_sem]
    exact bodyPost_ret (v := .tuple #[.agg #[.int .i64 0, .int .i64 0], .bool false]) (by simp [results, Tryz.results44, go_sem, c0, c1]) rfl ⟨rfl, (by repeat (first | assumption | exact Below.refl _ _ | (refine below_chain ?_ (by assumption) (by first | omega | (simp <;> omega) | simp)) | (refine Below.alloc ?_ (by first | omega | (simp <;> omega) | simp) _) | (apply below_drewN) | (apply below_drew) | (refine Below.setCell ?_ (by first | omega | (simp <;> omega) | simp) _)))⟩

end Go.Proofs.YtddmbjobibljaaaGreatDoor
