import Derived.Test.YtddmbjobibljaaaGreatDoorQc
namespace Go.Proofs.YtddmbjobibljaaaGreatDoor
open Go.RowKit

theorem iof_neg (a b : Int) (w : World) (ha : -4000000000000000000 ≤ a) (ha' : a ≤ 4000000000000000000) (hb : b < 0) (h1 : -4000000000000000000 ≤ b) :
    Calls Tryz.prog 39 #[.int .i64 a, .int .i64 b] w fun e w' => e = .returned (.tuple #[.agg #[.int .i64 (Quo.rT a b), .int .i64 (Quo.rL a b)], .bool (Quo.rOk a b)]) ∧ Below w.heap.size w w' := by
  have hb' : b ≤ 4000000000000000000 := by omega
  have hg := Quo.gcd_pos a b (by omega)
  have hg' := Quo.gcd_le a b (by omega)
  have h2 : (b == 0) = false := by simp; omega
  have h4 : (-(Int.gcd a b : Int) == 0) = false := by simp; omega
  have d1 := Quo.tdiv_lo a (Int.gcd a b)
  have d2 := Quo.tdiv_lo b (Int.gcd a b)
  have t1 : Quo.T a b = wrap64 (-(a.tdiv (Int.gcd a b))) := by rw [Quo.T_neg hb]; unfold wrap64; omega
  have t2 : Quo.L a b = wrap64 (-(b.tdiv (Int.gcd a b))) := by rw [Quo.L_neg hb]; unfold wrap64; omega
  have t3 := Quo.rOk_in ha ha' h1 hb' (by omega)
  clear d1 d2
  by_cases hq : Quo.qv (wrap64 (-(a.tdiv (Int.gcd a b)))) (wrap64 (-(b.tdiv (Int.gcd a b)))) = true
  · have r0 : Quo.rOk a b = true := by rw [t3, t1, t2]; exact hq
    rw [r0, Quo.rT_ok r0, Quo.rL_ok r0, t1, t2]
    clear t1 t2 t3 r0
    go_enter Tryz.func39, Tryz.ntmps39
    go_wp2_with (first | (go_at_call 76; (with_reducible refine (within_yes a _ _ ha ha' (by decide) (by decide)).mono ?_); rintro e w' ⟨rfl, rfl⟩) | (go_at_call 76; (with_reducible refine (within_yes b _ _ h1 hb' (by decide) (by decide)).mono ?_); rintro e w' ⟨rfl, rfl⟩) | (go_at_call 77; (with_reducible refine (divisor_any _ _ _ ha ha' h1 hb').mono ?_); rintro e w' ⟨rfl, k, rfl⟩))
    go_region
    all_goals go_wp2_with (go_at_call 78; refine (ivalid_is _ _ true _ hq).mono ?_; rintro e w1 ⟨rfl, hb1⟩; obtain ⟨hc, hf⟩ := bcell hb1)
    all_goals
      have c0 : w1.cell? ⟨w.heap.size, 0, none⟩ = some (.int .i64 0) := by rw [hc _ _ (by simp; omega)]; simp [go_sem]
      have c1 : w1.cell? ⟨w.heap.size, 1, none⟩ = some (.int .i64 0) := by rw [hc _ _ (by simp; omega)]; simp [go_sem]
      exact bodyPost_ret (v := .tuple #[.agg #[.int .i64 (wrap64 (-(a.tdiv (Int.gcd a b)))), .int .i64 (wrap64 (-(b.tdiv (Int.gcd a b))))], .bool true]) (by simp [results, Tryz.results39, go_sem, c0, c1]) rfl ⟨rfl, ((((below_drewN ((Below.refl _ _).alloc (Nat.le_refl _) _) _).alloc (by simp) _).trans (hb1.mono (by simp; omega))).setCell (by simp) _).setCell (by simp) _⟩
  · have hq' : Quo.qv (wrap64 (-(a.tdiv (Int.gcd a b)))) (wrap64 (-(b.tdiv (Int.gcd a b)))) = false := by simpa using hq
    have r0 : Quo.rOk a b = false := by rw [t3, t1, t2]; exact hq'
    rw [r0, Quo.rT_no r0, Quo.rL_no r0]
    clear t1 t2 t3 r0 hq
    go_enter Tryz.func39, Tryz.ntmps39
    go_wp2_with (first | (go_at_call 76; (with_reducible refine (within_yes a _ _ ha ha' (by decide) (by decide)).mono ?_); rintro e w' ⟨rfl, rfl⟩) | (go_at_call 76; (with_reducible refine (within_yes b _ _ h1 hb' (by decide) (by decide)).mono ?_); rintro e w' ⟨rfl, rfl⟩) | (go_at_call 77; (with_reducible refine (divisor_any _ _ _ ha ha' h1 hb').mono ?_); rintro e w' ⟨rfl, k, rfl⟩))
    go_region
    all_goals go_wp2_with (go_at_call 78; refine (ivalid_is _ _ false _ hq').mono ?_; rintro e w1 ⟨rfl, hb1⟩; obtain ⟨hc, hf⟩ := bcell hb1)
    all_goals
      have c0 : w1.cell? ⟨w.heap.size, 0, none⟩ = some (.int .i64 0) := by rw [hc _ _ (by simp; omega)]; simp [go_sem]
      have c1 : w1.cell? ⟨w.heap.size, 1, none⟩ = some (.int .i64 0) := by rw [hc _ _ (by simp; omega)]; simp [go_sem]
      exact bodyPost_ret (v := .tuple #[.agg #[.int .i64 (0), .int .i64 (0)], .bool false]) (by simp [results, Tryz.results39, go_sem, c0, c1]) rfl ⟨rfl, ((((below_drewN ((Below.refl _ _).alloc (Nat.le_refl _) _) _).alloc (by simp) _).trans (hb1.mono (by simp; omega))).setCell (by simp) _).setCell (by simp) _⟩

theorem iof_out (a b : Int) (w : World) (h : a < -4000000000000000000 ∨ 4000000000000000000 < a ∨ b < -4000000000000000000 ∨ 4000000000000000000 < b ∨ b = 0) :
    Calls Tryz.prog 39 #[.int .i64 a, .int .i64 b] w fun e w' => e = .returned (.tuple #[.agg #[.int .i64 (Quo.rT a b), .int .i64 (Quo.rL a b)], .bool (Quo.rOk a b)]) ∧ Below w.heap.size w w' := by
  have r0 := Quo.rOk_out h
  rw [r0, Quo.rT_no r0, Quo.rL_no r0]
  clear r0
  by_cases h0 : b = 0
  · subst h0
    clear h
    go_enter Tryz.func39, Tryz.ntmps39
    go_wp2
    exact bodyPost_ret (v := .tuple #[.agg #[.int .i64 0, .int .i64 0], .bool false]) (by simp [results, Tryz.results39, go_sem]) rfl ⟨rfl, (Below.refl _ _).alloc (Nat.le_refl _) _⟩
  · have h0' : (b == 0) = false := by simpa using h0
    by_cases h1 : a < -4000000000000000000 ∨ 4000000000000000000 < a
    · clear h
      go_enter Tryz.func39, Tryz.ntmps39
      go_wp2_with (go_at_call 76; (with_reducible refine (within_no a _ _ h1 (by decide) (by decide)).mono ?_); rintro e w' ⟨rfl, rfl⟩)
      exact bodyPost_ret (v := .tuple #[.agg #[.int .i64 0, .int .i64 0], .bool false]) (by simp [results, Tryz.results39, go_sem]) rfl ⟨rfl, (Below.refl _ _).alloc (Nat.le_refl _) _⟩
    · have h2 : -4000000000000000000 ≤ a := by omega
      have h2' : a ≤ 4000000000000000000 := by omega
      have h3 : b < -4000000000000000000 ∨ 4000000000000000000 < b := by omega
      clear h h1
      go_enter Tryz.func39, Tryz.ntmps39
      go_wp2_with (first | (go_at_call 76; (with_reducible refine (within_no b _ _ h3 (by decide) (by decide)).mono ?_); rintro e w' ⟨rfl, rfl⟩) | (go_at_call 76; (with_reducible refine (within_yes a _ _ h2 h2' (by decide) (by decide)).mono ?_); rintro e w' ⟨rfl, rfl⟩))
      exact bodyPost_ret (v := .tuple #[.agg #[.int .i64 0, .int .i64 0], .bool false]) (by simp [results, Tryz.results39, go_sem]) rfl ⟨rfl, (Below.refl _ _).alloc (Nat.le_refl _) _⟩

theorem sof_pos (a b : Int) (w : World) (ha : -4000000000000000000 ≤ a) (ha' : a ≤ 4000000000000000000) (hb : 0 < b) (hb' : b ≤ 4000000000000000000) :
    Calls Tryz.prog 66 #[.int .i64 a, .int .i64 b] w fun e w' => e = .returned (.tuple #[.agg #[.int .i64 (Quo.rT a b), .int .i64 (Quo.rL a b)], .bool (Quo.rOk a b)]) ∧ Below w.heap.size w w' := by
  have h1 : -4000000000000000000 ≤ b := by omega
  have hg := Quo.gcd_pos a b (by omega)
  have hg' := Quo.gcd_le a b (by omega)
  have h2 : (b == 0) = false := by simp; omega
  have h3 : ¬ b < 0 := by omega
  have h4 : ((Int.gcd a b : Int) == 0) = false := by simp; omega
  have hga := Quo.gcd_abs a b
  have t1 := Quo.T_pos (a := a) hb
  have t2 := Quo.L_pos (a := a) hb
  have t3 := Quo.rOk_in ha ha' h1 hb' (by omega)
  by_cases hq : Quo.qv (a.tdiv (Int.gcd a b)) (b / Int.gcd a b) = true
  · have r0 : Quo.rOk a b = true := by rw [t3, t1, t2]; exact hq
    rw [r0, Quo.rT_ok r0, Quo.rL_ok r0, t1, t2]
    clear t1 t2 t3 r0
    go_enter Tryz.func66, Tryz.ntmps66
    go_wp2_with (first | (go_at_call 43; (with_reducible refine (in_yes a _ _ _ ha ha').mono ?_); rintro e w' ⟨rfl, rfl⟩) | (go_at_call 43; (with_reducible refine (in_yes b _ _ _ h1 hb').mono ?_); rintro e w' ⟨rfl, rfl⟩) | (go_at_call 94; (with_reducible refine (size_any _ _ (by omega) (by omega)).mono ?_); rintro e w' ⟨rfl, rfl⟩) | (go_at_call 93; (with_reducible refine (common_any _ _ _ (by omega) (by omega) (by omega) (by omega)).mono ?_); rintro e w' ⟨rfl, rfl⟩))
    go_region
    all_goals go_wp2_with (go_at_call 95; refine (svalid_is _ _ true _ hq).mono ?_; rintro e w1 ⟨rfl, hb1⟩; obtain ⟨hc, hf⟩ := bcell hb1)
    all_goals
      have c0 : w1.cell? ⟨w.heap.size, 0, none⟩ = some (.int .i64 0) := by rw [hc _ _ (by simp; omega)]; simp [go_sem]
      have c1 : w1.cell? ⟨w.heap.size, 1, none⟩ = some (.int .i64 0) := by rw [hc _ _ (by simp; omega)]; simp [go_sem]
      exact bodyPost_ret (v := .tuple #[.agg #[.int .i64 (a.tdiv (Int.gcd a b)), .int .i64 (b / Int.gcd a b)], .bool true]) (by simp [results, Tryz.results66, go_sem, c0, c1]) rfl ⟨rfl, (((below_drew (((Below.refl _ _).alloc (Nat.le_refl _) _).alloc (by simp) _)).trans (hb1.mono (by simp; omega))).setCell (by simp) _).setCell (by simp) _⟩
  · have hq' : Quo.qv (a.tdiv (Int.gcd a b)) (b / Int.gcd a b) = false := by simpa using hq
    have r0 : Quo.rOk a b = false := by rw [t3, t1, t2]; exact hq'
    rw [r0, Quo.rT_no r0, Quo.rL_no r0]
    clear t1 t2 t3 r0 hq
    go_enter Tryz.func66, Tryz.ntmps66
    go_wp2_with (first | (go_at_call 43; (with_reducible refine (in_yes a _ _ _ ha ha').mono ?_); rintro e w' ⟨rfl, rfl⟩) | (go_at_call 43; (with_reducible refine (in_yes b _ _ _ h1 hb').mono ?_); rintro e w' ⟨rfl, rfl⟩) | (go_at_call 94; (with_reducible refine (size_any _ _ (by omega) (by omega)).mono ?_); rintro e w' ⟨rfl, rfl⟩) | (go_at_call 93; (with_reducible refine (common_any _ _ _ (by omega) (by omega) (by omega) (by omega)).mono ?_); rintro e w' ⟨rfl, rfl⟩))
    go_region
    all_goals go_wp2_with (go_at_call 95; refine (svalid_is _ _ false _ hq').mono ?_; rintro e w1 ⟨rfl, hb1⟩; obtain ⟨hc, hf⟩ := bcell hb1)
    all_goals
      have c0 : w1.cell? ⟨w.heap.size, 0, none⟩ = some (.int .i64 0) := by rw [hc _ _ (by simp; omega)]; simp [go_sem]
      have c1 : w1.cell? ⟨w.heap.size, 1, none⟩ = some (.int .i64 0) := by rw [hc _ _ (by simp; omega)]; simp [go_sem]
      exact bodyPost_ret (v := .tuple #[.agg #[.int .i64 (0), .int .i64 (0)], .bool false]) (by simp [results, Tryz.results66, go_sem, c0, c1]) rfl ⟨rfl, (((below_drew (((Below.refl _ _).alloc (Nat.le_refl _) _).alloc (by simp) _)).trans (hb1.mono (by simp; omega))).setCell (by simp) _).setCell (by simp) _⟩

theorem sof_out (a b : Int) (w : World) (h : a < -4000000000000000000 ∨ 4000000000000000000 < a ∨ b < -4000000000000000000 ∨ 4000000000000000000 < b ∨ b = 0) :
    Calls Tryz.prog 66 #[.int .i64 a, .int .i64 b] w fun e w' => e = .returned (.tuple #[.agg #[.int .i64 (Quo.rT a b), .int .i64 (Quo.rL a b)], .bool (Quo.rOk a b)]) ∧ Below w.heap.size w w' := by
  have r0 := Quo.rOk_out h
  rw [r0, Quo.rT_no r0, Quo.rL_no r0]
  clear r0
  by_cases h1 : a < -4000000000000000000 ∨ 4000000000000000000 < a
  · clear h
    go_enter Tryz.func66, Tryz.ntmps66
    go_wp2_with (go_at_call 43; (with_reducible refine (in_no a _ _ _ h1).mono ?_); rintro e w' ⟨rfl, rfl⟩)
    exact bodyPost_ret (v := .tuple #[.agg #[.int .i64 0, .int .i64 0], .bool false]) (by simp [results, Tryz.results66, go_sem]) rfl ⟨rfl, (Below.refl _ _).alloc (Nat.le_refl _) _⟩
  · have h2 : -4000000000000000000 ≤ a := by omega
    have h2' : a ≤ 4000000000000000000 := by omega
    by_cases h3 : b < -4000000000000000000 ∨ 4000000000000000000 < b
    · clear h h1
      go_enter Tryz.func66, Tryz.ntmps66
      go_wp2_with (first | (go_at_call 43; (with_reducible refine (in_no b _ _ _ h3).mono ?_); rintro e w' ⟨rfl, rfl⟩) | (go_at_call 43; (with_reducible refine (in_yes a _ _ _ h2 h2').mono ?_); rintro e w' ⟨rfl, rfl⟩))
      exact bodyPost_ret (v := .tuple #[.agg #[.int .i64 0, .int .i64 0], .bool false]) (by simp [results, Tryz.results66, go_sem]) rfl ⟨rfl, (Below.refl _ _).alloc (Nat.le_refl _) _⟩
    · obtain rfl : b = 0 := by omega
      clear h h1 h3
      go_enter Tryz.func66, Tryz.ntmps66
      go_wp2_with (first | (go_at_call 43; (with_reducible refine (in_yes 0 _ _ _ (by decide) (by decide)).mono ?_); rintro e w' ⟨rfl, rfl⟩) | (go_at_call 43; (with_reducible refine (in_yes a _ _ _ h2 h2').mono ?_); rintro e w' ⟨rfl, rfl⟩))
      exact bodyPost_ret (v := .tuple #[.agg #[.int .i64 0, .int .i64 0], .bool false]) (by simp [results, Tryz.results66, go_sem]) rfl ⟨rfl, (Below.refl _ _).alloc (Nat.le_refl _) _⟩

theorem sof_neg (a b : Int) (w : World) (ha : -4000000000000000000 ≤ a) (ha' : a ≤ 4000000000000000000) (hb : b < 0) (h1 : -4000000000000000000 ≤ b) :
    Calls Tryz.prog 66 #[.int .i64 a, .int .i64 b] w fun e w' => e = .returned (.tuple #[.agg #[.int .i64 (Quo.rT a b), .int .i64 (Quo.rL a b)], .bool (Quo.rOk a b)]) ∧ Below w.heap.size w w' := by
  have hb' : b ≤ 4000000000000000000 := by omega
  have hg := Quo.gcd_pos a b (by omega)
  have hg' := Quo.gcd_le a b (by omega)
  have h2 : (b == 0) = false := by simp; omega
  have h4 : ((Int.gcd a b : Int) == 0) = false := by simp; omega
  have hga := Quo.gcd_abs a b
  have hgn := Quo.gcd_absneg a b
  have d1 := Quo.tdiv_lo a (Int.gcd a b)
  have d2 := Quo.tdiv_lo b (Int.gcd a b)
  have t1 : Quo.T a b = wrap64 (-(a.tdiv (Int.gcd a b))) := by rw [Quo.T_neg hb]; unfold wrap64; omega
  have t2 : Quo.L a b = wrap64 (-(b.tdiv (Int.gcd a b))) := by rw [Quo.L_neg hb]; unfold wrap64; omega
  have t3 := Quo.rOk_in ha ha' h1 hb' (by omega)
  clear d1 d2
  by_cases hq : Quo.qv (wrap64 (-(a.tdiv (Int.gcd a b)))) (wrap64 (-(b.tdiv (Int.gcd a b)))) = true
  · have r0 : Quo.rOk a b = true := by rw [t3, t1, t2]; exact hq
    rw [r0, Quo.rT_ok r0, Quo.rL_ok r0, t1, t2]
    clear t1 t2 t3 r0
    go_enter Tryz.func66, Tryz.ntmps66
    go_wp2_with (first | (go_at_call 43; (with_reducible refine (in_yes a _ _ _ ha ha').mono ?_); rintro e w' ⟨rfl, rfl⟩) | (go_at_call 43; (with_reducible refine (in_yes b _ _ _ h1 hb').mono ?_); rintro e w' ⟨rfl, rfl⟩) | (go_at_call 94; (with_reducible refine (size_any _ _ (by omega) (by omega)).mono ?_); rintro e w' ⟨rfl, rfl⟩) | (go_at_call 93; (with_reducible refine (common_any _ _ _ (by omega) (by omega) (by omega) (by omega)).mono ?_); rintro e w' ⟨rfl, rfl⟩))
    go_region
    all_goals go_wp2_with (go_at_call 95; refine (svalid_is _ _ true _ hq).mono ?_; rintro e w1 ⟨rfl, hb1⟩; obtain ⟨hc, hf⟩ := bcell hb1)
    all_goals
      have c0 : w1.cell? ⟨w.heap.size, 0, none⟩ = some (.int .i64 0) := by rw [hc _ _ (by simp; omega)]; simp [go_sem]
      have c1 : w1.cell? ⟨w.heap.size, 1, none⟩ = some (.int .i64 0) := by rw [hc _ _ (by simp; omega)]; simp [go_sem]
      exact bodyPost_ret (v := .tuple #[.agg #[.int .i64 (wrap64 (-(a.tdiv (Int.gcd a b)))), .int .i64 (wrap64 (-(b.tdiv (Int.gcd a b))))], .bool true]) (by simp [results, Tryz.results66, go_sem, c0, c1]) rfl ⟨rfl, (((below_drew (((Below.refl _ _).alloc (Nat.le_refl _) _).alloc (by simp) _)).trans (hb1.mono (by simp; omega))).setCell (by simp) _).setCell (by simp) _⟩
  · have hq' : Quo.qv (wrap64 (-(a.tdiv (Int.gcd a b)))) (wrap64 (-(b.tdiv (Int.gcd a b)))) = false := by simpa using hq
    have r0 : Quo.rOk a b = false := by rw [t3, t1, t2]; exact hq'
    rw [r0, Quo.rT_no r0, Quo.rL_no r0]
    clear t1 t2 t3 r0 hq
    go_enter Tryz.func66, Tryz.ntmps66
    go_wp2_with (first | (go_at_call 43; (with_reducible refine (in_yes a _ _ _ ha ha').mono ?_); rintro e w' ⟨rfl, rfl⟩) | (go_at_call 43; (with_reducible refine (in_yes b _ _ _ h1 hb').mono ?_); rintro e w' ⟨rfl, rfl⟩) | (go_at_call 94; (with_reducible refine (size_any _ _ (by omega) (by omega)).mono ?_); rintro e w' ⟨rfl, rfl⟩) | (go_at_call 93; (with_reducible refine (common_any _ _ _ (by omega) (by omega) (by omega) (by omega)).mono ?_); rintro e w' ⟨rfl, rfl⟩))
    go_region
    all_goals go_wp2_with (go_at_call 95; refine (svalid_is _ _ false _ hq').mono ?_; rintro e w1 ⟨rfl, hb1⟩; obtain ⟨hc, hf⟩ := bcell hb1)
    all_goals
      have c0 : w1.cell? ⟨w.heap.size, 0, none⟩ = some (.int .i64 0) := by rw [hc _ _ (by simp; omega)]; simp [go_sem]
      have c1 : w1.cell? ⟨w.heap.size, 1, none⟩ = some (.int .i64 0) := by rw [hc _ _ (by simp; omega)]; simp [go_sem]
      exact bodyPost_ret (v := .tuple #[.agg #[.int .i64 (0), .int .i64 (0)], .bool false]) (by simp [results, Tryz.results66, go_sem, c0, c1]) rfl ⟨rfl, (((below_drew (((Below.refl _ _).alloc (Nat.le_refl _) _).alloc (by simp) _)).trans (hb1.mono (by simp; omega))).setCell (by simp) _).setCell (by simp) _⟩

theorem iof_any (a b : Int) (w : World) :
    Calls Tryz.prog 39 #[.int .i64 a, .int .i64 b] w fun e w' => e = .returned (.tuple #[.agg #[.int .i64 (Quo.rT a b), .int .i64 (Quo.rL a b)], .bool (Quo.rOk a b)]) ∧ Below w.heap.size w w' := by
  by_cases h : a < -4000000000000000000 ∨ 4000000000000000000 < a ∨ b < -4000000000000000000 ∨ 4000000000000000000 < b ∨ b = 0
  · exact iof_out a b w h
  · by_cases hb : b < 0
    · exact iof_neg a b w (by omega) (by omega) hb (by omega)
    · exact iof_pos a b w (by omega) (by omega) (by omega) (by omega)

theorem sof_any (a b : Int) (w : World) :
    Calls Tryz.prog 66 #[.int .i64 a, .int .i64 b] w fun e w' => e = .returned (.tuple #[.agg #[.int .i64 (Quo.rT a b), .int .i64 (Quo.rL a b)], .bool (Quo.rOk a b)]) ∧ Below w.heap.size w w' := by
  by_cases h : a < -4000000000000000000 ∨ 4000000000000000000 < a ∨ b < -4000000000000000000 ∨ 4000000000000000000 < b ∨ b = 0
  · exact sof_out a b w h
  · by_cases hb : b < 0
    · exact sof_neg a b w (by omega) (by omega) hb (by omega)
    · exact sof_pos a b w (by omega) (by omega) (by omega) (by omega)

end Go.Proofs.YtddmbjobibljaaaGreatDoor
