/-
  A run's rest over what is free of it, by the program and by the reference model.
-/
import Derived.Test.YtenllemaccacgaaGreatDoorRl
import Derived.Test.YtenllemaccacgaaGreatDoorEw
namespace Go.Proofs.YtenllemaccacgaaGreatDoor
open Go.RowKit
set_option linter.unusedVariables false

/-- the size of the rest over what is free -/
noncomputable def blT (N n : Nat) (rs : List Rn) (r : Rn) : Int := Quo.rT ((rsT n rs r).natAbs * sfL N rs r) (rsL n rs r * sfT N rs r)
noncomputable def blL (N n : Nat) (rs : List Rn) (r : Rn) : Int := Quo.rL ((rsT n rs r).natAbs * sfL N rs r) (rsL n rs r * sfT N rs r)
noncomputable def blB (N n : Nat) (rs : List Rn) (r : Rn) : Bool := Quo.rOk ((rsT n rs r).natAbs * sfL N rs r) (rsL n rs r * sfT N rs r)
theorem qv_turn {x y : Int} (h : Quo.qv x y = true) (hx : 1 ≤ x) : Quo.qv y x = true := by
  obtain ⟨h1, h2, h3, h4, h5⟩ := Quo.qv_true h
  rw [Int.gcd_comm] at h5
  unfold Quo.qv
  simp
  omega
theorem qv_size {a b : Int} (h : Quo.qv a b = true) : Quo.qv (a.natAbs : Int) b = true := by
  obtain ⟨h1, h2, h3, h4, h5⟩ := Quo.qv_true h
  have h6 : Int.gcd (a.natAbs : Int) b = 1 := by rw [← h5]; simp [Int.gcd]
  unfold Quo.qv
  simp only [decide_eq_true_eq]
  omega
theorem res_two {u v : Int} {w wa : World} {X : Nat} (hX : w.heap.size ≤ X) (hB : Below w.heap.size w wa) (h : Cell2 wa X 0 0) :
    ((wa.setCell ⟨X, 0, none⟩ (.int .i64 u)).setCell ⟨X, 1, none⟩ (.int .i64 v)).cell? ⟨X, 0, none⟩ = some (.int .i64 u) ∧ ((wa.setCell ⟨X, 0, none⟩ (.int .i64 u)).setCell ⟨X, 1, none⟩ (.int .i64 v)).cell? ⟨X, 1, none⟩ = some (.int .i64 v) ∧ Below w.heap.size w ((wa.setCell ⟨X, 0, none⟩ (.int .i64 u)).setCell ⟨X, 1, none⟩ (.int .i64 v)) := by
  obtain ⟨z1, z2, -, -⟩ := h.set u v
  exact ⟨z1, z2, (hB.setCell (p := ⟨X, 0, none⟩) hX _).setCell (p := ⟨X, 1, none⟩) hX _⟩
set_option maxHeartbeats 2000000 in
theorem iRestPer (a b x y : Int) (w : World) (h : Quo.qv a b = true) (hf : Quo.qv x y = true) (hx : 1 ≤ x) :
    Calls Tryz.prog 32 #[.agg #[.int .i64 a, .int .i64 b], .agg #[.int .i64 x, .int .i64 y]] w fun e w' => e = .returned (.tuple #[.agg #[.int .i64 (Quo.rT (a.natAbs * y) (b * x)), .int .i64 (Quo.rL (a.natAbs * y) (b * x))], .bool (Quo.rOk (a.natAbs * y) (b * x))]) ∧ Below w.heap.size w w' := by
  have hb : Quo.both (a.natAbs : Int) b y x = true := by unfold Quo.both; rw [qv_size h, qv_turn hf hx]; rfl
  have c1 := fun w => Lib.hid (by have := iTimes_any (a.natAbs : Int) b y x w; rw [hb] at this; exact this)
  have ha := Quo.qv_true h
  have hwr : IntKind.i64.wrap (-a) = -a := by rw [IntKind.wrap_i64]; omega
  have g1 : ∀ p q : Int, Quo.gT true p q = Quo.rT p q := fun _ _ => rfl
  have g2 : ∀ p q : Int, Quo.gL true p q = Quo.rL p q := fun _ _ => rfl
  have g3 : ∀ p q : Int, Quo.gOk true p q = Quo.rOk p q := fun _ _ => rfl
  simp only [g1, g2, g3] at c1
  obtain ⟨u, hu⟩ : ∃ u, Quo.rT (a.natAbs * y) (b * x) = u := ⟨_, rfl⟩
  obtain ⟨v, hv⟩ : ∃ u, Quo.rL (a.natAbs * y) (b * x) = u := ⟨_, rfl⟩
  obtain ⟨k, hk⟩ : ∃ u, Quo.rOk (a.natAbs * y) (b * x) = u := ⟨_, rfl⟩
  rw [hu, hv, hk] at c1 ⊢
  obtain ⟨M, hM⟩ : ∃ M : Int, (a.natAbs : Int) = M := ⟨_, rfl⟩
  rw [hM] at c1
  by_cases h0 : a < -a
  · have e : M = -a := by omega
    subst e
    clear h hf hb ha g1 g2 g3 hu hv hk hM
    go_enter Tryz.func32, Tryz.ntmps32
    go_wp2_with (go_at_call 12; (with_reducible refine ((c1 _).out).mono ?_); rintro e wt ⟨rfl, hb_wt⟩; have hs_wt := hb_wt.size; have hY := (Cell2.new ((w.alloc (.cells #[.int .i64 a, .int .i64 b] 27)).alloc (.cells #[.int .i64 x, .int .i64 y] 27)) 0 0 27).below hb_wt; obtain ⟨y1, y2, y3, y4⟩ := id hY; simp at y1 y2 y3 y4)
    have hB0 : Below w.heap.size w wt := (by repeat (first | assumption | exact Below.refl _ _ | (refine below_chain ?_ (by assumption) (by first | omega | (simp <;> omega) | simp)) | (refine Below.alloc ?_ (by first | omega | (simp <;> omega) | simp) _) | (apply below_drewN) | (apply below_drew) | (refine Below.setCell ?_ (by first | omega | (simp <;> omega) | simp) _)))
    obtain ⟨z1, z2, z3⟩ := res_two (u := u) (v := v) (by simp; omega) hB0 hY
    simp at z1 z2 z3
    clear hb_wt hs_wt hY hB0 z1 z2
    refine bodyPost_ret (v := .tuple #[.agg #[.int .i64 u, .int .i64 v], .bool k]) (by simp [results, Tryz.results32, go_sem, y1, y2]) rfl ⟨rfl, z3⟩
  · have e : M = a := by omega
    subst e
    have h1 : -M ≤ M := by omega
    have h2 : decide (M < -M) = false := by simp; omega
    have h3 : max M (-M) = M := by omega
    clear h hf hb ha g1 g2 g3 hu hv hk hM
    go_enter Tryz.func32, Tryz.ntmps32
    go_wp2_with (go_at_call 12; (with_reducible refine ((c1 _).out).mono ?_); rintro e wt ⟨rfl, hb_wt⟩; have hs_wt := hb_wt.size; have hY := (Cell2.new ((w.alloc (.cells #[.int .i64 M, .int .i64 b] 27)).alloc (.cells #[.int .i64 x, .int .i64 y] 27)) 0 0 27).below hb_wt; obtain ⟨y1, y2, y3, y4⟩ := id hY; simp at y1 y2 y3 y4)
    have hB0 : Below w.heap.size w wt := (by repeat (first | assumption | exact Below.refl _ _ | (refine below_chain ?_ (by assumption) (by first | omega | (simp <;> omega) | simp)) | (refine Below.alloc ?_ (by first | omega | (simp <;> omega) | simp) _) | (apply below_drewN) | (apply below_drew) | (refine Below.setCell ?_ (by first | omega | (simp <;> omega) | simp) _)))
    obtain ⟨z1, z2, z3⟩ := res_two (u := u) (v := v) (by simp; omega) hB0 hY
    simp at z1 z2 z3
    clear hb_wt hs_wt hY hB0 z1 z2
    refine bodyPost_ret (v := .tuple #[.agg #[.int .i64 u, .int .i64 v], .bool k]) (by simp [results, Tryz.results32, go_sem, y1, y2]) rfl ⟨rfl, z3⟩
set_option maxHeartbeats 4000000 in
set_option maxRecDepth 100000 in
theorem sBl_no (n k : Int) (p : Option Addr) (c m : Nat) (rs : List Rn) (a b x y : Int) (w : World) (h : Runs w p rs)
    (c1 : ∀ w, Runs w p rs → Hid (Calls Tryz.prog 61 #[.int .i64 n, .slice p m c, .int .i64 k] w fun e w' => e = .returned (.tuple #[.agg #[.int .i64 a, .int .i64 b], .bool false]) ∧ Below w.heap.size w w'))
    (c2 : ∀ w, Runs w p rs → Hid (Calls Tryz.prog 8 #[.int .i64 n, .slice p m c, .int .i64 k] w fun e w' => e = .returned (.tuple #[.agg #[.int .i64 x, .int .i64 y], .bool true]) ∧ Below w.heap.size w w')) :
    Calls Tryz.prog 35 #[.int .i64 n, .slice p m c, .int .i64 k] w fun e w' => e = .returned (.tuple #[.agg #[.int .i64 0, .int .i64 0], .bool false, .bool false]) ∧ Below w.heap.size w w' := by
  have H := Lib.hid h
  clear h
  go_enter Tryz.func35, Tryz.ntmps35
  go_upto_region 1 with fail
  refine gen_world (fun W => Cell2 W w.heap.size 0 0 ∧ Below w.heap.size w W) ⟨Cell2.new w 0 0 27, (Below.refl _ _).alloc (Nat.le_refl _) _⟩ (fun V hV => ?_)
  obtain ⟨hC0, hB0⟩ := hV
  obtain ⟨b0, hb0⟩ : ∃ b, w.heap.size = b := ⟨_, rfl⟩
  rw [hb0] at hC0 hB0 ⊢
  have HBb := Lib.hid hb0
  clear hb0
  have HC0 := Lib.hid hC0
  have HB0 := Lib.hid hB0
  have hl0 := hC0.lt
  clear hC0
  have hs0 : b0 ≤ V.heap.size := by omega
  clear hB0
  go_upto_region 2 with ((go_at_call 61; (with_reducible refine ((c1 _ ?_).out).mono ?_); (focus ((exact H.out.below (by rw [HBb.out]; exact HB0.out)); done)); rintro e wi ⟨rfl, hb_wi⟩; have hs_wi := hb_wi.size; (try simp at hs_wi)))
  obtain ⟨V1, X1, hV, hX, hC, hBd, hXl⟩ := new_cell hb_wi a b 27
  rw [← hV, ← hX]
  have HC1 := Lib.hid (HC0.out.below hBd)
  have HB1 := Lib.hid (HB0.out.trans (hBd.mono hs0))
  have HX1 := Lib.hid hC
  have hl1 := hC.lt
  have hs1 : b0 ≤ V1.heap.size := by have := hBd.size; omega
  clear hV hX hC hBd hb_wi hs_wi
  go_upto_region 3 with ((go_at_call 8; (with_reducible refine ((c2 _ ?_).out).mono ?_); (focus ((exact H.out.below (by rw [HBb.out]; exact HB1.out)); done)); rintro e wi ⟨rfl, hb_wi⟩; have hs_wi := hb_wi.size; (try simp at hs_wi)))
  obtain ⟨V2, X2, hV, hX, hC, hBd, hXl2⟩ := new_cell hb_wi x y 27
  rw [← hV, ← hX]
  have HC2 := Lib.hid (HC1.out.below hBd)
  have HB2 := Lib.hid (HB1.out.trans (hBd.mono hs1))
  have HX2 := Lib.hid (HX1.out.below hBd)
  have HY2 := Lib.hid hC
  have hl2 := hC.lt
  have hs2 : b0 ≤ V2.heap.size := by have := hBd.size; omega
  clear hV hX hC hBd hb_wi hs_wi c1 c2
  obtain ⟨q1, q2, q3, q4⟩ := HC2.out
  obtain ⟨u1, u2, -, -⟩ := HY2.out
  have HBe := HB2.out
  go_wp2_with fail
  refine bodyPost_ret (v := .tuple #[.agg #[.int .i64 0, .int .i64 0], .bool false, .bool false]) (by simp [results, Tryz.results35, go_sem, q1, q2]) rfl ⟨rfl, by rw [HBb.out]; exact (HBe.setCell (Nat.le_refl _) _).setCell (Nat.le_refl _) _⟩
set_option maxHeartbeats 4000000 in
set_option maxRecDepth 100000 in
theorem sBl_flat (n k : Int) (p : Option Addr) (c m : Nat) (rs : List Rn) (a b y : Int) (w : World) (h : Runs w p rs)
    (c1 : ∀ w, Runs w p rs → Hid (Calls Tryz.prog 61 #[.int .i64 n, .slice p m c, .int .i64 k] w fun e w' => e = .returned (.tuple #[.agg #[.int .i64 a, .int .i64 b], .bool true]) ∧ Below w.heap.size w w'))
    (c2 : ∀ w, Runs w p rs → Hid (Calls Tryz.prog 8 #[.int .i64 n, .slice p m c, .int .i64 k] w fun e w' => e = .returned (.tuple #[.agg #[.int .i64 0, .int .i64 y], .bool true]) ∧ Below w.heap.size w w')) :
    Calls Tryz.prog 35 #[.int .i64 n, .slice p m c, .int .i64 k] w fun e w' => e = .returned (.tuple #[.agg #[.int .i64 0, .int .i64 0], .bool false, .bool true]) ∧ Below w.heap.size w w' := by
  have H := Lib.hid h
  clear h
  go_enter Tryz.func35, Tryz.ntmps35
  go_upto_region 1 with fail
  refine gen_world (fun W => Cell2 W w.heap.size 0 0 ∧ Below w.heap.size w W) ⟨Cell2.new w 0 0 27, (Below.refl _ _).alloc (Nat.le_refl _) _⟩ (fun V hV => ?_)
  obtain ⟨hC0, hB0⟩ := hV
  obtain ⟨b0, hb0⟩ : ∃ b, w.heap.size = b := ⟨_, rfl⟩
  rw [hb0] at hC0 hB0 ⊢
  have HBb := Lib.hid hb0
  clear hb0
  have HC0 := Lib.hid hC0
  have HB0 := Lib.hid hB0
  have hl0 := hC0.lt
  clear hC0
  have hs0 : b0 ≤ V.heap.size := by omega
  clear hB0
  go_upto_region 2 with ((go_at_call 61; (with_reducible refine ((c1 _ ?_).out).mono ?_); (focus ((exact H.out.below (by rw [HBb.out]; exact HB0.out)); done)); rintro e wi ⟨rfl, hb_wi⟩; have hs_wi := hb_wi.size; (try simp at hs_wi)))
  obtain ⟨V1, X1, hV, hX, hC, hBd, hXl⟩ := new_cell hb_wi a b 27
  rw [← hV, ← hX]
  have HC1 := Lib.hid (HC0.out.below hBd)
  have HB1 := Lib.hid (HB0.out.trans (hBd.mono hs0))
  have HX1 := Lib.hid hC
  have hl1 := hC.lt
  have hs1 : b0 ≤ V1.heap.size := by have := hBd.size; omega
  clear hV hX hC hBd hb_wi hs_wi
  go_upto_region 3 with ((go_at_call 8; (with_reducible refine ((c2 _ ?_).out).mono ?_); (focus ((exact H.out.below (by rw [HBb.out]; exact HB1.out)); done)); rintro e wi ⟨rfl, hb_wi⟩; have hs_wi := hb_wi.size; (try simp at hs_wi)))
  obtain ⟨V2, X2, hV, hX, hC, hBd, hXl2⟩ := new_cell hb_wi 0 y 27
  rw [← hV, ← hX]
  have HC2 := Lib.hid (HC1.out.below hBd)
  have HB2 := Lib.hid (HB1.out.trans (hBd.mono hs1))
  have HX2 := Lib.hid (HX1.out.below hBd)
  have HY2 := Lib.hid hC
  have hl2 := hC.lt
  have hs2 : b0 ≤ V2.heap.size := by have := hBd.size; omega
  clear hV hX hC hBd hb_wi hs_wi c1 c2
  obtain ⟨q1, q2, q3, q4⟩ := HC2.out
  obtain ⟨u1, u2, -, -⟩ := HY2.out
  have HBe := HB2.out
  go_wp2_with fail
  refine bodyPost_ret (v := .tuple #[.agg #[.int .i64 0, .int .i64 0], .bool false, .bool true]) (by simp [results, Tryz.results35, go_sem, q1, q2]) rfl ⟨rfl, by rw [HBb.out]; exact (HBe.setCell (Nat.le_refl _) _).setCell (Nat.le_refl _) _⟩
set_option maxHeartbeats 4000000 in
set_option maxRecDepth 100000 in
theorem sBl_yes (n k : Int) (p : Option Addr) (c m : Nat) (rs : List Rn) (a b x y : Int) (w : World) (h : Runs w p rs) (ha : Quo.qv a b = true) (hx : Quo.qv x y = true) (hx0 : ¬ x = 0)
    (c1 : ∀ w, Runs w p rs → Hid (Calls Tryz.prog 61 #[.int .i64 n, .slice p m c, .int .i64 k] w fun e w' => e = .returned (.tuple #[.agg #[.int .i64 a, .int .i64 b], .bool true]) ∧ Below w.heap.size w w'))
    (c2 : ∀ w, Runs w p rs → Hid (Calls Tryz.prog 8 #[.int .i64 n, .slice p m c, .int .i64 k] w fun e w' => e = .returned (.tuple #[.agg #[.int .i64 x, .int .i64 y], .bool true]) ∧ Below w.heap.size w w')) :
    Calls Tryz.prog 35 #[.int .i64 n, .slice p m c, .int .i64 k] w fun e w' => e = .returned (.tuple #[.agg #[.int .i64 (Quo.rT (a.natAbs * y) (b * x)), .int .i64 (Quo.rL (a.natAbs * y) (b * x))], .bool true, .bool (Quo.rOk (a.natAbs * y) (b * x))]) ∧ Below w.heap.size w w' := by
  have H := Lib.hid h
  have va := Quo.qv_true ha
  have vx := Quo.qv_true hx
  have hx0b : (x == 0) = false := by simpa using hx0
  have c3 := fun w => Lib.hid (size_any a w (by omega) (by omega))
  have c4 := fun w => Lib.hid (sof_any (a.natAbs * y) (b * x) w)
  obtain ⟨A, hA⟩ : ∃ A : Int, (a.natAbs : Int) = A := ⟨_, rfl⟩
  rw [hA] at c4 ⊢
  have c3 := fun w => Lib.hid (by have := (c3 w).out; rw [hA] at this; exact this)
  have hA0 : 0 ≤ A ∧ A ≤ 1000000000 := by omega
  obtain ⟨p1, p2⟩ := Quo.mul_bd (a := A) (b := y) (by omega) hA0.2 (by omega) vx.2.1
  obtain ⟨p3, p4⟩ := Quo.mul_bd (a := b) (b := x) (by omega) va.2.1 vx.2.2.1 vx.2.2.2.1
  have wr1 : IntKind.i64.wrap (A * y) = A * y := by rw [IntKind.wrap_i64]; omega
  have wr2 : IntKind.i64.wrap (b * x) = b * x := by rw [IntKind.wrap_i64]; omega
  obtain ⟨X, hX⟩ : ∃ u, Quo.rT (A * y) (b * x) = u := ⟨_, rfl⟩
  obtain ⟨Y, hY⟩ : ∃ u, Quo.rL (A * y) (b * x) = u := ⟨_, rfl⟩
  obtain ⟨K, hK⟩ : ∃ u, Quo.rOk (A * y) (b * x) = u := ⟨_, rfl⟩
  rw [hX, hY, hK] at c4 ⊢
  clear h va vx p1 p2 p3 p4 hX hY hK hA hA0 ha hx
  go_enter Tryz.func35, Tryz.ntmps35
  go_upto_region 1 with fail
  refine gen_world (fun W => Cell2 W w.heap.size 0 0 ∧ Below w.heap.size w W) ⟨Cell2.new w 0 0 27, (Below.refl _ _).alloc (Nat.le_refl _) _⟩ (fun V hV => ?_)
  obtain ⟨hC0, hB0⟩ := hV
  obtain ⟨b0, hb0⟩ : ∃ b, w.heap.size = b := ⟨_, rfl⟩
  rw [hb0] at hC0 hB0 ⊢
  have HBb := Lib.hid hb0
  clear hb0
  have HC0 := Lib.hid hC0
  have HB0 := Lib.hid hB0
  have hl0 := hC0.lt
  clear hC0
  have hs0 : b0 ≤ V.heap.size := by omega
  clear hB0
  go_upto_region 2 with ((go_at_call 61; (with_reducible refine ((c1 _ ?_).out).mono ?_); (focus ((exact H.out.below (by rw [HBb.out]; exact HB0.out)); done)); rintro e wi ⟨rfl, hb_wi⟩; have hs_wi := hb_wi.size; (try simp at hs_wi)))
  obtain ⟨V1, X1, hV, hX, hC, hBd, hXl⟩ := new_cell hb_wi a b 27
  rw [← hV, ← hX]
  have HC1 := Lib.hid (HC0.out.below hBd)
  have HB1 := Lib.hid (HB0.out.trans (hBd.mono hs0))
  have HX1 := Lib.hid hC
  have hl1 := hC.lt
  have hs1 : b0 ≤ V1.heap.size := by have := hBd.size; omega
  clear hV hX hC hBd hb_wi hs_wi
  go_upto_region 3 with ((go_at_call 8; (with_reducible refine ((c2 _ ?_).out).mono ?_); (focus ((exact H.out.below (by rw [HBb.out]; exact HB1.out)); done)); rintro e wi ⟨rfl, hb_wi⟩; have hs_wi := hb_wi.size; (try simp at hs_wi)))
  obtain ⟨V2, X2, hV, hX, hC, hBd, hXl2⟩ := new_cell hb_wi x y 27
  rw [← hV, ← hX]
  have HC2 := Lib.hid (HC1.out.below hBd)
  have HB2 := Lib.hid (HB1.out.trans (hBd.mono hs1))
  have HX2 := Lib.hid (HX1.out.below hBd)
  have HY2 := Lib.hid hC
  have hl2 := hC.lt
  have hs2 : b0 ≤ V2.heap.size := by have := hBd.size; omega
  clear hV hX hC hBd hb_wi hs_wi c1 c2
  obtain ⟨d1, d2, -, -⟩ := HX2.out
  obtain ⟨d3, d4, -, -⟩ := HY2.out
  go_upto_region 7 with fail
  apply ways_cellR (x := X) (y := Y) (V := V2)
  · intro REST
    have kep : ∀ w1 : World, Below V2.heap.size V2 w1 → w1.cell? ⟨X1, 0, none⟩ = some (.int .i64 a) ∧ w1.cell? ⟨X1, 1, none⟩ = some (.int .i64 b) ∧ w1.cell? ⟨X2, 0, none⟩ = some (.int .i64 x) ∧ w1.cell? ⟨X2, 1, none⟩ = some (.int .i64 y) := fun w1 hb => ⟨cell_below_keep hb d1, cell_below_keep hb d2, cell_below_keep hb d3, cell_below_keep hb d4⟩
    have KEP := Lib.hid kep
    clear kep
    go_region_held3 (fun W => W.cell? ⟨X1, 0, none⟩ = some (.int .i64 a) ∧ W.cell? ⟨X1, 1, none⟩ = some (.int .i64 b) ∧ W.cell? ⟨X2, 0, none⟩ = some (.int .i64 x) ∧ W.cell? ⟨X2, 1, none⟩ = some (.int .i64 y)) (first | (go_keep; done) | (refine ⟨?_, ?_, ?_, ?_⟩ <;> (first | ((with_reducible refine cell_below_keep (by with_reducible assumption) ?_); with_reducible assumption) | ((with_reducible refine cell_set_keep _ ?_ ?_); (focus (dsimp only; omega)); (with_reducible refine cell_set_keep _ ?_ ?_); (focus (dsimp only; omega)); with_reducible assumption))))
      (first
        | (go_at_call 62; (with_reducible refine ((c3 _).out).mono ?_); rintro e w0 ⟨rfl, rfl⟩)
        | (go_at_call 54; (with_reducible refine ((c4 _).out).mono ?_); rintro e w1 ⟨rfl, hb_w1⟩; trace_state; (first | (have hV1 : Below V2.heap.size V2 w1 := (below_drew (Below.refl _ _)).trans hb_w1; obtain ⟨a0, a1, a2, a3⟩ := KEP.out w1 hV1) | (have hV1 : Below V2.heap.size V2 w1 := ((below_drew (Below.refl V2.heap.size V2)).alloc (Nat.le_refl _) (.cells #[.int .i64 0, .int .i64 0] 27)).trans (hb_w1.mono (by simp)); obtain ⟨a0, a1, a2, a3⟩ := KEP.out w1 hV1; obtain ⟨y1, y2, y3, y4⟩ := (show Cell2 w1 V2.heap.size 0 0 from (Cell2.new V2.drew 0 0 27).below hb_w1)))))
    all_goals
      first
      | (have hYA := Cell2.new w1 X Y 27; have hBA : Below V2.heap.size V2 (w1.alloc (.cells #[.int .i64 X, .int .i64 Y] 27)) := hV1.alloc hV1.size _; obtain ⟨Z, hZe⟩ : ∃ Z, w1.heap.size = Z := ⟨_, rfl⟩; rw [hZe] at hYA ⊢; refine gen_exitR (fun W => Cell2 W Z X Y ∧ Below V2.heap.size V2 W) ⟨hYA, hBA⟩ (fun W hW => ?_); exact REST Z W hW.1 (by have := hV1.size; omega) hW.2)
      | (have hYA := (show Cell2 w1 V2.heap.size 0 0 from ⟨y1, y2, y3, y4⟩).set X Y; have hBA : Below V2.heap.size V2 ((w1.setCell ⟨V2.heap.size, 0, none⟩ (.int .i64 X)).setCell ⟨V2.heap.size, 1, none⟩ (.int .i64 Y)) := (hV1.setCell (Nat.le_refl _) _).setCell (Nat.le_refl _) _; refine gen_exitR (fun W => Cell2 W V2.heap.size X Y ∧ Below V2.heap.size V2 W) ⟨hYA, hBA⟩ (fun W hW => ?_); obtain ⟨hW1, hW2⟩ := hW; obtain ⟨Z, hZe⟩ : ∃ Z, V2.heap.size = Z := ⟨_, rfl⟩; rw [hZe] at hW1 ⊢; exact REST Z W hW1 (by have := hV1.size; omega) hW2)
  · intro R V3 hC hRa hBV
    obtain ⟨m1, m2, -, -⟩ := hC
    obtain ⟨q1, q2, q3, q4⟩ := HC2.out.below hBV
    have HBe := HB2.out.trans (hBV.mono hs2)
    clear d1 d2 d3 d4 hBV
    go_wp2_with fail
    refine bodyPost_ret (v := .tuple #[.agg #[.int .i64 X, .int .i64 Y], .bool true, .bool K]) (by simp [results, Tryz.results35, go_sem, q1, q2]) rfl ⟨rfl, by rw [HBb.out]; exact (HBe.setCell (Nat.le_refl _) _).setCell (Nat.le_refl _) _⟩
end Go.Proofs.YtenllemaccacgaaGreatDoor
