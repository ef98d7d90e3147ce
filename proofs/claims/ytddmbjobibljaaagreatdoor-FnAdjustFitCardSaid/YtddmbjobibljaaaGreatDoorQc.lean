import Derived.Test.YtddmbjobibljaaaGreatDoorQb
namespace Go.Proofs.YtddmbjobibljaaaGreatDoor
open Go.RowKit

theorem ivalid_is (t l : Int) (b : Bool) (w : World) (h : Quo.qv t l = b) :
    Calls Tryz.prog 78 #[.agg #[.int .i64 t, .int .i64 l]] w fun e w' => e = .returned (.bool b) ∧ Below w.heap.size w w' := by
  rw [← h]; exact ivalid_any t l w
theorem svalid_is (t l : Int) (b : Bool) (w : World) (h : Quo.qv t l = b) :
    Calls Tryz.prog 95 #[.agg #[.int .i64 t, .int .i64 l]] w fun e w' => e = .returned (.bool b) ∧ Below w.heap.size w w' := by
  rw [← h]; exact svalid_any t l w

theorem iof_pos (a b : Int) (w : World) (ha : -4000000000000000000 ≤ a) (ha' : a ≤ 4000000000000000000) (hb : 0 < b) (hb' : b ≤ 4000000000000000000) :
    Calls Tryz.prog 39 #[.int .i64 a, .int .i64 b] w fun e w' => e = .returned (.tuple #[.agg #[.int .i64 (Quo.rT a b), .int .i64 (Quo.rL a b)], .bool (Quo.rOk a b)]) ∧ Below w.heap.size w w' := by
  have h1 : -4000000000000000000 ≤ b := by omega
  have hg := Quo.gcd_pos a b (by omega)
  have hg' := Quo.gcd_le a b (by omega)
  have h2 : (b == 0) = false := by simp; omega
  have h3 : ¬ b < 0 := by omega
  have h4 : ((Int.gcd a b : Int) == 0) = false := by simp; omega
  have t1 := Quo.T_pos (a := a) hb
  have t2 := Quo.L_pos (a := a) hb
  have t3 := Quo.rOk_in ha ha' h1 hb' (by omega)
  by_cases hq : Quo.qv (a.tdiv (Int.gcd a b)) (b / Int.gcd a b) = true
  · have r0 : Quo.rOk a b = true := by rw [t3, t1, t2]; exact hq
    rw [r0, Quo.rT_ok r0, Quo.rL_ok r0, t1, t2]
    clear t1 t2 t3 r0
    go_enter Tryz.func39, Tryz.ntmps39
    go_wp2_with (first | (go_at_call 76; (with_reducible refine (within_yes a _ _ ha ha' (by decide) (by decide)).mono ?_); rintro e w' ⟨rfl, rfl⟩) | (go_at_call 76; (with_reducible refine (within_yes b _ _ h1 hb' (by decide) (by decide)).mono ?_); rintro e w' ⟨rfl, rfl⟩) | (go_at_call 77; (with_reducible refine (divisor_any _ _ _ ha ha' h1 hb').mono ?_); rintro e w' ⟨rfl, k, rfl⟩))
    go_region
    all_goals go_wp2_with (go_at_call 78; refine (ivalid_is _ _ true _ hq).mono ?_; rintro e w1 ⟨rfl, hb1⟩; obtain ⟨hc, hf⟩ := bcell hb1)
    all_goals
      have c0 : w1.cell? ⟨w.heap.size, 0, none⟩ = some (.int .i64 0) := by rw [hc _ _ (by simp; omega)]; simp [go_sem]
      have c1 : w1.cell? ⟨w.heap.size, 1, none⟩ = some (.int .i64 0) := by rw [hc _ _ (by simp; omega)]; simp [go_sem]
      exact bodyPost_ret (v := .tuple #[.agg #[.int .i64 (a.tdiv (Int.gcd a b)), .int .i64 (b / Int.gcd a b)], .bool true]) (by simp [results, Tryz.results39, go_sem, c0, c1]) rfl ⟨rfl, ((((below_drewN ((Below.refl _ _).alloc (Nat.le_refl _) _) _).alloc (by simp) _).trans (hb1.mono (by simp; omega))).setCell (by simp) _).setCell (by simp) _⟩
  · have hq' : Quo.qv (a.tdiv (Int.gcd a b)) (b / Int.gcd a b) = false := by simpa using hq
    have r0 : Quo.rOk a b = false := by rw [t3, t1, t2]; exact hq'
    rw [r0, Quo.rT_no r0, Quo.rL_no r0]
    clear t1 t2 t3 r0 hq
    go_enter Tryz.func39, Tryz.ntmps39
    go_wp2_with (first | (go_at_call 76; (with_reducible refine (within_yes a _ _ ha ha' (by decide) (by decide)).mono ?_); rintro e w' ⟨rfl, rfl⟩) | (go_at_call 76; (with_reducible refine (within_yes b _ _ h1 hb' (by decide) (by decide)).mono ?_); rintro e w' ⟨rfl, rfl⟩) | (go_at_call 77; (with_reducible refine (divisor_any _ _ _ ha ha' h1 hb').mono ?_); rintro e w' ⟨rfl, k, rfl⟩))
    go_region
    all_goals go_wp2_with (go_at_call 78; refine (ivalid_is _ _ false _ hq').mono ?_; rintro e w1 ⟨rfl, hb1⟩; obtain ⟨hc, hf⟩ := bcell hb1)
    all_goals
      have c0 : w1.cell? ⟨w.heap.size, 0, none⟩ = some (.int .i64 0) := by rw [hc _ _ (by simp; omega)]; simp [go_sem]
      have c1 : w1.cell? ⟨w.heap.size, 1, none⟩ = some (.int .i64 0) := by rw [hc _ _ (by simp; omega)]; simp [go_sem]
      exact bodyPost_ret (v := .tuple #[.agg #[.int .i64 0, .int .i64 0], .bool false]) (by simp [results, Tryz.results39, go_sem, c0, c1]) rfl ⟨rfl, ((((below_drewN ((Below.refl _ _).alloc (Nat.le_refl _) _) _).alloc (by simp) _).trans (hb1.mono (by simp; omega))).setCell (by simp) _).setCell (by simp) _⟩
end Go.Proofs.YtddmbjobibljaaaGreatDoor
