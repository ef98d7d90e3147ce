import Derived.Test.YtddmbjobibljaaaGreatDoorQe
namespace Go.Proofs.YtddmbjobibljaaaGreatDoor
open Go.RowKit

/-- the interface value that the program makes of a quotient -/
def numB (t l : Int) : Value := if Quo.qv t l then (if l = 1 then .iface 137 (.int .i64 t) else .iface 139 (.agg #[.int .i64 t, .int .i64 l])) else .nilIface
theorem numB_no {t l : Int} (h : Quo.qv t l = false) : numB t l = .nilIface := by unfold numB; simp [h]
theorem numB_one {t : Int} (h : Quo.qv t 1 = true) : numB t 1 = .iface 137 (.int .i64 t) := by unfold numB; simp [h]
theorem numB_more {t l : Int} (h : Quo.qv t l = true) (h1 : l ≠ 1) : numB t l = .iface 139 (.agg #[.int .i64 t, .int .i64 l]) := by unfold numB; simp [h, h1]

theorem numberOf_any (t l : Int) (w : World) :
    Calls Tryz.prog 75 #[.agg #[.int .i64 t, .int .i64 l]] w fun e w' => e = .returned (.tuple #[numB t l, .bool (Quo.qv t l)]) ∧ Below w.heap.size w w' := by
  by_cases h : Quo.qv t l = true
  · rw [h]
    by_cases h1 : l = 1
    · subst h1
      rw [numB_one h]
      go_enter Tryz.func75, Tryz.ntmps75
      go_wp2_with ((go_at_call 78; (with_reducible refine (ivalid_is _ _ true _ h).mono ?_); rintro e wn ⟨rfl, hbn⟩; obtain ⟨hcn, hfn⟩ := bcell hbn; have hzn : w.heap.size < wn.heap.size := (by have := hbn.size; (try simp at this); omega)))
      go_ret2
      exact ⟨rfl, (by repeat (first | assumption | exact Below.refl _ _ | (refine below_chain ?_ (by assumption) (by first | omega | (simp <;> omega) | simp)) | (refine Below.alloc ?_ (by first | omega | (simp <;> omega) | simp) _) | (apply below_drewN) | (apply below_drew) | (refine Below.setCell ?_ (by first | omega | (simp <;> omega) | simp) _)))⟩
    · rw [numB_more h h1]
      have h1' : (l == 1) = false := by simpa using h1
      go_enter Tryz.func75, Tryz.ntmps75
      go_wp2_with ((go_at_call 78; (with_reducible refine (ivalid_is _ _ true _ h).mono ?_); rintro e wn ⟨rfl, hbn⟩; obtain ⟨hcn, hfn⟩ := bcell hbn; have hzn : w.heap.size < wn.heap.size := (by have := hbn.size; (try simp at this); omega)))
      go_ret2
      exact ⟨rfl, (by repeat (first | assumption | exact Below.refl _ _ | (refine below_chain ?_ (by assumption) (by first | omega | (simp <;> omega) | simp)) | (refine Below.alloc ?_ (by first | omega | (simp <;> omega) | simp) _) | (apply below_drewN) | (apply below_drew) | (refine Below.setCell ?_ (by first | omega | (simp <;> omega) | simp) _)))⟩
  · have h' : Quo.qv t l = false := by simpa using h
    rw [h', numB_no h']
    clear h
    go_enter Tryz.func75, Tryz.ntmps75
    go_wp2_with ((go_at_call 78; (with_reducible refine (ivalid_is _ _ false _ h').mono ?_); rintro e wn ⟨rfl, hbn⟩; obtain ⟨hcn, hfn⟩ := bcell hbn; have hzn : w.heap.size < wn.heap.size := (by have := hbn.size; (try simp at this); omega)))
    go_ret2
    exact ⟨rfl, (by repeat (first | assumption | exact Below.refl _ _ | (refine below_chain ?_ (by assumption) (by first | omega | (simp <;> omega) | simp)) | (refine Below.alloc ?_ (by first | omega | (simp <;> omega) | simp) _) | (apply below_drewN) | (apply below_drew) | (refine Below.setCell ?_ (by first | omega | (simp <;> omega) | simp) _)))⟩

theorem numberOf_is (t l : Int) (x : Value) (b : Bool) (w : World) (hx : numB t l = x) (hb : Quo.qv t l = b) :
    Calls Tryz.prog 75 #[.agg #[.int .i64 t, .int .i64 l]] w fun e w' => e = .returned (.tuple #[x, .bool b]) ∧ Below w.heap.size w w' := by
  rw [← hx, ← hb]; exact numberOf_any t l w

theorem numbersOf_is (t l s m : Int) (x y : Value) (a b : Bool) (w : World) (hx : numB t l = x) (ha : Quo.qv t l = a) (hy : numB s m = y) (hb : Quo.qv s m = b) :
    Calls Tryz.prog 38 #[.agg #[.int .i64 t, .int .i64 l], .agg #[.int .i64 s, .int .i64 m]] w fun e w' => e = .returned (.tuple #[x, y, .bool (a && b)]) ∧ Below w.heap.size w w' := by
  have c1 := fun w => Lib.hid (numberOf_is t l x a w hx ha)
  have c2 := fun w => Lib.hid (numberOf_is s m y b w hy hb)
  clear hx hy ha hb
  cases a <;> cases b
  all_goals
    go_enter Tryz.func38, Tryz.ntmps38
    go_wp2_with (first | (go_at_call 75; (with_reducible refine ((c1 _).out).mono ?_); rintro e wn ⟨rfl, hbn⟩; obtain ⟨hcn, hfn⟩ := bcell hbn; have hzn : w.heap.size < wn.heap.size := (by have := hbn.size; (try simp at this); omega)) | (go_at_call 75; (with_reducible refine ((c2 _).out).mono ?_); rintro e wn ⟨rfl, hbn⟩; obtain ⟨hcn, hfn⟩ := bcell hbn; have hzn : w.heap.size < wn.heap.size := (by have := hbn.size; (try simp at this); omega)))
    try go_quiet (fail)
    try go_wp2
    go_ret3
    exact ⟨rfl, (by repeat (first | assumption | exact Below.refl _ _ | (refine below_chain ?_ (by assumption) (by first | omega | (simp <;> omega) | simp)) | (refine Below.alloc ?_ (by first | omega | (simp <;> omega) | simp) _) | (apply below_drewN) | (apply below_drew) | (refine Below.setCell ?_ (by first | omega | (simp <;> omega) | simp) _)))⟩

theorem parts_whole (t : Int) (w : World) :
    Calls Tryz.prog 134 #[.int .i64 t] w fun e w' => e = .returned (.tuple #[.int .i64 t, .int .i64 1]) ∧ w = w' := by
  go_enter Tryz.func134, Tryz.ntmps134
  go_wp2
  go_ret2
  exact ⟨rfl, rfl⟩
theorem parts_broken (t l : Int) (w : World) :
    Calls Tryz.prog 135 #[.agg #[.int .i64 t, .int .i64 l]] w fun e w' => e = .returned (.tuple #[.int .i64 t, .int .i64 l]) ∧ Below w.heap.size w w' := by
  go_enter Tryz.func135, Tryz.ntmps135
  go_wp2
  go_quiet (fail)
  go_wp2
  go_ret2
  exact ⟨rfl, (by repeat (first | assumption | exact Below.refl _ _ | (refine below_chain ?_ (by assumption) (by first | omega | (simp <;> omega) | simp)) | (refine Below.alloc ?_ (by first | omega | (simp <;> omega) | simp) _) | (apply below_drewN) | (apply below_drew) | (refine Below.setCell ?_ (by first | omega | (simp <;> omega) | simp) _)))⟩


theorem meth_whole (x : Int) (w : World) : (method 283 137 (.int .i64 x) "loop.example/levellingnet/impl.parts").run Tryz.prog w = .ok (134, .int .i64 x) w := by kernel_rfl
theorem meth_broken (x y : Int) (w : World) : (method 283 139 (.agg #[.int .i64 x, .int .i64 y]) "loop.example/levellingnet/impl.parts").run Tryz.prog w = .ok (135, .agg #[.int .i64 x, .int .i64 y]) w := by kernel_rfl

theorem iAdd_no (t l s m : Int) (w : World) (h : (Quo.qv t l && Quo.qv s m) = false) :
    Calls Tryz.prog 15 #[.agg #[.int .i64 t, .int .i64 l], .agg #[.int .i64 s, .int .i64 m]] w fun e w' => e = .returned (.tuple #[.agg #[.int .i64 0, .int .i64 0], .bool false]) ∧ Below w.heap.size w w' := by
  go_enter Tryz.func15, Tryz.ntmps15
  go_wp2_with ((go_at_call 38; (with_reducible refine (numbersOf_is _ _ _ _ _ _ _ _ _ rfl rfl rfl rfl).mono ?_); rintro e wn ⟨rfl, hbn⟩; obtain ⟨hcn, hfn⟩ := bcell hbn; have hzn : w.heap.size < wn.heap.size := (by have := hbn.size; (try simp at this); omega)))
  have c0 : wn.cell? ⟨w.heap.size + 1 + 1, 0, none⟩ = some (.int .i64 0) := by rw [hcn _ _ (by simp)]; simp [go_sem]
  have c1 : wn.cell? ⟨w.heap.size + 1 + 1, 1, none⟩ = some (.int .i64 0) := by rw [hcn _ _ (by simp)]; simp [go_sem]
  exact bodyPost_ret (v := .tuple #[.agg #[.int .i64 0, .int .i64 0], .bool false]) (by simp [results, Tryz.results15, go_sem, c0, c1]) rfl ⟨rfl, (by repeat (first | assumption | exact Below.refl _ _ | (refine below_chain ?_ (by assumption) (by first | omega | (simp <;> omega) | simp)) | (refine Below.alloc ?_ (by first | omega | (simp <;> omega) | simp) _) | (apply below_drewN) | (apply below_drew) | (refine Below.setCell ?_ (by first | omega | (simp <;> omega) | simp) _)))⟩

theorem iAdd_11 (t s : Int) (w : World) (h1 : Quo.qv t 1 = true) (h2 : Quo.qv s 1 = true) :
    Calls Tryz.prog 15 #[.agg #[.int .i64 t, .int .i64 1], .agg #[.int .i64 s, .int .i64 1]] w fun e w' => e = .returned (.tuple #[.agg #[.int .i64 (Quo.rT (t * 1 + s * 1) (1 * 1)), .int .i64 (Quo.rL (t * 1 + s * 1) (1 * 1))], .bool (Quo.rOk (t * 1 + s * 1) (1 * 1))]) ∧ Below w.heap.size w w' := by
  obtain ⟨b1, b2, b3, b4, -⟩ := Quo.qv_true h1
  obtain ⟨b5, b6, b7, b8, -⟩ := Quo.qv_true h2
  have mw := meth_whole
  have mb := meth_broken
  have cn := fun w => Lib.hid (numbersOf_is _ _ _ _ _ _ true true w (numB_one h1) h1 (numB_one h2) h2)
  clear h1 h2
  go_enter Tryz.func15, Tryz.ntmps15
  go_wp2_with (first | (go_at_call 38; (with_reducible refine ((cn _).out).mono ?_); rintro e wn ⟨rfl, hbn⟩; obtain ⟨hcn, hfn⟩ := bcell hbn; have hzn : w.heap.size < wn.heap.size := (by have := hbn.size; (try simp at this); omega); have hzn1 : w.heap.size + 1 < wn.heap.size := (by have := hbn.size; (try simp at this); omega); have hzn2 : w.heap.size + 1 + 1 < wn.heap.size := (by have := hbn.size; (try simp at this); omega)) | (go_at_call 134; (with_reducible refine (parts_whole _ _).mono ?_); rintro e w' ⟨rfl, rfl⟩) | (go_at_call 135; (with_reducible refine (parts_broken _ _ _).mono ?_); rintro e wn ⟨rfl, hbn⟩; obtain ⟨hcn, hfn⟩ := bcell hbn; have hzn : w.heap.size < wn.heap.size := (by have := hbn.size; (try simp at this); omega); have hzn1 : w.heap.size + 1 < wn.heap.size := (by have := hbn.size; (try simp at this); omega); have hzn2 : w.heap.size + 1 + 1 < wn.heap.size := (by have := hbn.size; (try simp at this); omega)) | (go_at_call 39; (with_reducible refine (iof_any _ _ _).mono ?_); rintro e wn ⟨rfl, hbn⟩; obtain ⟨hcn, hfn⟩ := bcell hbn; have hzn : w.heap.size < wn.heap.size := (by have := hbn.size; (try simp at this); omega); have hzn1 : w.heap.size + 1 < wn.heap.size := (by have := hbn.size; (try simp at this); omega); have hzn2 : w.heap.size + 1 + 1 < wn.heap.size := (by have := hbn.size; (try simp at this); omega)))
  have c0 : wn.cell? ⟨w.heap.size + 1 + 1, 0, none⟩ = some (.int .i64 0) := by simp [*, go_sem]
  have c1 : wn.cell? ⟨w.heap.size + 1 + 1, 1, none⟩ = some (.int .i64 0) := by simp [*, go_sem]
  exact bodyPost_ret (v := .tuple #[.agg #[.int .i64 (Quo.rT (t * 1 + s * 1) (1 * 1)), .int .i64 (Quo.rL (t * 1 + s * 1) (1 * 1))], .bool (Quo.rOk (t * 1 + s * 1) (1 * 1))]) (by simp [results, Tryz.results15, go_sem, c0, c1]) rfl ⟨rfl, (by repeat (first | assumption | exact Below.refl _ _ | (refine below_chain ?_ (by assumption) (by first | omega | (simp <;> omega) | simp)) | (refine Below.alloc ?_ (by first | omega | (simp <;> omega) | simp) _) | (apply below_drewN) | (apply below_drew) | (refine Below.setCell ?_ (by first | omega | (simp <;> omega) | simp) _)))⟩

theorem iAdd_1m (t s m : Int) (w : World) (h1 : Quo.qv t 1 = true) (h2 : Quo.qv s m = true) (k2 : m ≠ 1) :
    Calls Tryz.prog 15 #[.agg #[.int .i64 t, .int .i64 1], .agg #[.int .i64 s, .int .i64 m]] w fun e w' => e = .returned (.tuple #[.agg #[.int .i64 (Quo.rT (t * m + s * 1) (1 * m)), .int .i64 (Quo.rL (t * m + s * 1) (1 * m))], .bool (Quo.rOk (t * m + s * 1) (1 * m))]) ∧ Below w.heap.size w w' := by
  obtain ⟨b1, b2, b3, b4, -⟩ := Quo.qv_true h1
  obtain ⟨b5, b6, b7, b8, -⟩ := Quo.qv_true h2
  have mw := meth_whole
  have mb := meth_broken
  have cn := fun w => Lib.hid (numbersOf_is _ _ _ _ _ _ true true w (numB_one h1) h1 (numB_more h2 k2) h2)
  obtain ⟨p1, p2⟩ := Quo.mul_bd b3 b4 (show -1000000000 ≤ m by omega) b6
  clear h1 h2
  go_enter Tryz.func15, Tryz.ntmps15
  go_wp2_with (first | (go_at_call 38; (with_reducible refine ((cn _).out).mono ?_); rintro e wn ⟨rfl, hbn⟩; obtain ⟨hcn, hfn⟩ := bcell hbn; have hzn : w.heap.size < wn.heap.size := (by have := hbn.size; (try simp at this); omega); have hzn1 : w.heap.size + 1 < wn.heap.size := (by have := hbn.size; (try simp at this); omega); have hzn2 : w.heap.size + 1 + 1 < wn.heap.size := (by have := hbn.size; (try simp at this); omega)) | (go_at_call 134; (with_reducible refine (parts_whole _ _).mono ?_); rintro e w' ⟨rfl, rfl⟩) | (go_at_call 135; (with_reducible refine (parts_broken _ _ _).mono ?_); rintro e wn ⟨rfl, hbn⟩; obtain ⟨hcn, hfn⟩ := bcell hbn; have hzn : w.heap.size < wn.heap.size := (by have := hbn.size; (try simp at this); omega); have hzn1 : w.heap.size + 1 < wn.heap.size := (by have := hbn.size; (try simp at this); omega); have hzn2 : w.heap.size + 1 + 1 < wn.heap.size := (by have := hbn.size; (try simp at this); omega)) | (go_at_call 39; (with_reducible refine (iof_any _ _ _).mono ?_); rintro e wn ⟨rfl, hbn⟩; obtain ⟨hcn, hfn⟩ := bcell hbn; have hzn : w.heap.size < wn.heap.size := (by have := hbn.size; (try simp at this); omega); have hzn1 : w.heap.size + 1 < wn.heap.size := (by have := hbn.size; (try simp at this); omega); have hzn2 : w.heap.size + 1 + 1 < wn.heap.size := (by have := hbn.size; (try simp at this); omega)))
  have c0 : wn.cell? ⟨w.heap.size + 1 + 1, 0, none⟩ = some (.int .i64 0) := by simp [*, go_sem]
  have c1 : wn.cell? ⟨w.heap.size + 1 + 1, 1, none⟩ = some (.int .i64 0) := by simp [*, go_sem]
  exact bodyPost_ret (v := .tuple #[.agg #[.int .i64 (Quo.rT (t * m + s * 1) (1 * m)), .int .i64 (Quo.rL (t * m + s * 1) (1 * m))], .bool (Quo.rOk (t * m + s * 1) (1 * m))]) (by simp [results, Tryz.results15, go_sem, c0, c1]) rfl ⟨rfl, (by repeat (first | assumption | exact Below.refl _ _ | (refine below_chain ?_ (by assumption) (by first | omega | (simp <;> omega) | simp)) | (refine Below.alloc ?_ (by first | omega | (simp <;> omega) | simp) _) | (apply below_drewN) | (apply below_drew) | (refine Below.setCell ?_ (by first | omega | (simp <;> omega) | simp) _)))⟩

theorem iAdd_l1 (t l s : Int) (w : World) (h1 : Quo.qv t l = true) (h2 : Quo.qv s 1 = true) (k1 : l ≠ 1) :
    Calls Tryz.prog 15 #[.agg #[.int .i64 t, .int .i64 l], .agg #[.int .i64 s, .int .i64 1]] w fun e w' => e = .returned (.tuple #[.agg #[.int .i64 (Quo.rT (t * 1 + s * l) (l * 1)), .int .i64 (Quo.rL (t * 1 + s * l) (l * 1))], .bool (Quo.rOk (t * 1 + s * l) (l * 1))]) ∧ Below w.heap.size w w' := by
  obtain ⟨b1, b2, b3, b4, -⟩ := Quo.qv_true h1
  obtain ⟨b5, b6, b7, b8, -⟩ := Quo.qv_true h2
  have mw := meth_whole
  have mb := meth_broken
  have cn := fun w => Lib.hid (numbersOf_is _ _ _ _ _ _ true true w (numB_more h1 k1) h1 (numB_one h2) h2)
  obtain ⟨p3, p4⟩ := Quo.mul_bd b7 b8 (show -1000000000 ≤ l by omega) b2
  clear h1 h2
  go_enter Tryz.func15, Tryz.ntmps15
  go_wp2_with (first | (go_at_call 38; (with_reducible refine ((cn _).out).mono ?_); rintro e wn ⟨rfl, hbn⟩; obtain ⟨hcn, hfn⟩ := bcell hbn; have hzn : w.heap.size < wn.heap.size := (by have := hbn.size; (try simp at this); omega); have hzn1 : w.heap.size + 1 < wn.heap.size := (by have := hbn.size; (try simp at this); omega); have hzn2 : w.heap.size + 1 + 1 < wn.heap.size := (by have := hbn.size; (try simp at this); omega)) | (go_at_call 134; (with_reducible refine (parts_whole _ _).mono ?_); rintro e w' ⟨rfl, rfl⟩) | (go_at_call 135; (with_reducible refine (parts_broken _ _ _).mono ?_); rintro e wn ⟨rfl, hbn⟩; obtain ⟨hcn, hfn⟩ := bcell hbn; have hzn : w.heap.size < wn.heap.size := (by have := hbn.size; (try simp at this); omega); have hzn1 : w.heap.size + 1 < wn.heap.size := (by have := hbn.size; (try simp at this); omega); have hzn2 : w.heap.size + 1 + 1 < wn.heap.size := (by have := hbn.size; (try simp at this); omega)) | (go_at_call 39; (with_reducible refine (iof_any _ _ _).mono ?_); rintro e wn ⟨rfl, hbn⟩; obtain ⟨hcn, hfn⟩ := bcell hbn; have hzn : w.heap.size < wn.heap.size := (by have := hbn.size; (try simp at this); omega); have hzn1 : w.heap.size + 1 < wn.heap.size := (by have := hbn.size; (try simp at this); omega); have hzn2 : w.heap.size + 1 + 1 < wn.heap.size := (by have := hbn.size; (try simp at this); omega)))
  have c0 : wn.cell? ⟨w.heap.size + 1 + 1, 0, none⟩ = some (.int .i64 0) := by simp [*, go_sem]
  have c1 : wn.cell? ⟨w.heap.size + 1 + 1, 1, none⟩ = some (.int .i64 0) := by simp [*, go_sem]
  exact bodyPost_ret (v := .tuple #[.agg #[.int .i64 (Quo.rT (t * 1 + s * l) (l * 1)), .int .i64 (Quo.rL (t * 1 + s * l) (l * 1))], .bool (Quo.rOk (t * 1 + s * l) (l * 1))]) (by simp [results, Tryz.results15, go_sem, c0, c1]) rfl ⟨rfl, (by repeat (first | assumption | exact Below.refl _ _ | (refine below_chain ?_ (by assumption) (by first | omega | (simp <;> omega) | simp)) | (refine Below.alloc ?_ (by first | omega | (simp <;> omega) | simp) _) | (apply below_drewN) | (apply below_drew) | (refine Below.setCell ?_ (by first | omega | (simp <;> omega) | simp) _)))⟩

theorem iAdd_lm (t l s m : Int) (w : World) (h1 : Quo.qv t l = true) (h2 : Quo.qv s m = true) (k1 : l ≠ 1) (k2 : m ≠ 1) :
    Calls Tryz.prog 15 #[.agg #[.int .i64 t, .int .i64 l], .agg #[.int .i64 s, .int .i64 m]] w fun e w' => e = .returned (.tuple #[.agg #[.int .i64 (Quo.rT (t * m + s * l) (l * m)), .int .i64 (Quo.rL (t * m + s * l) (l * m))], .bool (Quo.rOk (t * m + s * l) (l * m))]) ∧ Below w.heap.size w w' := by
  obtain ⟨b1, b2, b3, b4, -⟩ := Quo.qv_true h1
  obtain ⟨b5, b6, b7, b8, -⟩ := Quo.qv_true h2
  have mw := meth_whole
  have mb := meth_broken
  have cn := fun w => Lib.hid (numbersOf_is _ _ _ _ _ _ true true w (numB_more h1 k1) h1 (numB_more h2 k2) h2)
  obtain ⟨p1, p2⟩ := Quo.mul_bd b3 b4 (show -1000000000 ≤ m by omega) b6
  obtain ⟨p3, p4⟩ := Quo.mul_bd b7 b8 (show -1000000000 ≤ l by omega) b2
  obtain ⟨p5, p6⟩ := Quo.mul_bd (show -1000000000 ≤ l by omega) b2 (show -1000000000 ≤ m by omega) b6
  clear h1 h2
  go_enter Tryz.func15, Tryz.ntmps15
  go_wp2_with (first | (go_at_call 38; (with_reducible refine ((cn _).out).mono ?_); rintro e wn ⟨rfl, hbn⟩; obtain ⟨hcn, hfn⟩ := bcell hbn; have hzn : w.heap.size < wn.heap.size := (by have := hbn.size; (try simp at this); omega); have hzn1 : w.heap.size + 1 < wn.heap.size := (by have := hbn.size; (try simp at this); omega); have hzn2 : w.heap.size + 1 + 1 < wn.heap.size := (by have := hbn.size; (try simp at this); omega)) | (go_at_call 134; (with_reducible refine (parts_whole _ _).mono ?_); rintro e w' ⟨rfl, rfl⟩) | (go_at_call 135; (with_reducible refine (parts_broken _ _ _).mono ?_); rintro e wn ⟨rfl, hbn⟩; obtain ⟨hcn, hfn⟩ := bcell hbn; have hzn : w.heap.size < wn.heap.size := (by have := hbn.size; (try simp at this); omega); have hzn1 : w.heap.size + 1 < wn.heap.size := (by have := hbn.size; (try simp at this); omega); have hzn2 : w.heap.size + 1 + 1 < wn.heap.size := (by have := hbn.size; (try simp at this); omega)) | (go_at_call 39; (with_reducible refine (iof_any _ _ _).mono ?_); rintro e wn ⟨rfl, hbn⟩; obtain ⟨hcn, hfn⟩ := bcell hbn; have hzn : w.heap.size < wn.heap.size := (by have := hbn.size; (try simp at this); omega); have hzn1 : w.heap.size + 1 < wn.heap.size := (by have := hbn.size; (try simp at this); omega); have hzn2 : w.heap.size + 1 + 1 < wn.heap.size := (by have := hbn.size; (try simp at this); omega)))
  have c0 : wn.cell? ⟨w.heap.size + 1 + 1, 0, none⟩ = some (.int .i64 0) := by simp [*, go_sem]
  have c1 : wn.cell? ⟨w.heap.size + 1 + 1, 1, none⟩ = some (.int .i64 0) := by simp [*, go_sem]
  exact bodyPost_ret (v := .tuple #[.agg #[.int .i64 (Quo.rT (t * m + s * l) (l * m)), .int .i64 (Quo.rL (t * m + s * l) (l * m))], .bool (Quo.rOk (t * m + s * l) (l * m))]) (by simp [results, Tryz.results15, go_sem, c0, c1]) rfl ⟨rfl, (by repeat (first | assumption | exact Below.refl _ _ | (refine below_chain ?_ (by assumption) (by first | omega | (simp <;> omega) | simp)) | (refine Below.alloc ?_ (by first | omega | (simp <;> omega) | simp) _) | (apply below_drewN) | (apply below_drew) | (refine Below.setCell ?_ (by first | omega | (simp <;> omega) | simp) _)))⟩

theorem iTimes_no (t l s m : Int) (w : World) (h : (Quo.qv t l && Quo.qv s m) = false) :
    Calls Tryz.prog 74 #[.agg #[.int .i64 t, .int .i64 l], .agg #[.int .i64 s, .int .i64 m]] w fun e w' => e = .returned (.tuple #[.agg #[.int .i64 0, .int .i64 0], .bool false]) ∧ Below w.heap.size w w' := by
  go_enter Tryz.func74, Tryz.ntmps74
  go_wp2_with ((go_at_call 38; (with_reducible refine (numbersOf_is _ _ _ _ _ _ _ _ _ rfl rfl rfl rfl).mono ?_); rintro e wn ⟨rfl, hbn⟩; obtain ⟨hcn, hfn⟩ := bcell hbn; have hzn : w.heap.size < wn.heap.size := (by have := hbn.size; (try simp at this); omega)))
  have c0 : wn.cell? ⟨w.heap.size + 1 + 1, 0, none⟩ = some (.int .i64 0) := by rw [hcn _ _ (by simp)]; simp [go_sem]
  have c1 : wn.cell? ⟨w.heap.size + 1 + 1, 1, none⟩ = some (.int .i64 0) := by rw [hcn _ _ (by simp)]; simp [go_sem]
  exact bodyPost_ret (v := .tuple #[.agg #[.int .i64 0, .int .i64 0], .bool false]) (by simp [results, Tryz.results74, go_sem, c0, c1]) rfl ⟨rfl, (by repeat (first | assumption | exact Below.refl _ _ | (refine below_chain ?_ (by assumption) (by first | omega | (simp <;> omega) | simp)) | (refine Below.alloc ?_ (by first | omega | (simp <;> omega) | simp) _) | (apply below_drewN) | (apply below_drew) | (refine Below.setCell ?_ (by first | omega | (simp <;> omega) | simp) _)))⟩

theorem iTimes_11 (t s : Int) (w : World) (h1 : Quo.qv t 1 = true) (h2 : Quo.qv s 1 = true) :
    Calls Tryz.prog 74 #[.agg #[.int .i64 t, .int .i64 1], .agg #[.int .i64 s, .int .i64 1]] w fun e w' => e = .returned (.tuple #[.agg #[.int .i64 (Quo.rT (t * s) (1 * 1)), .int .i64 (Quo.rL (t * s) (1 * 1))], .bool (Quo.rOk (t * s) (1 * 1))]) ∧ Below w.heap.size w w' := by
  obtain ⟨b1, b2, b3, b4, -⟩ := Quo.qv_true h1
  obtain ⟨b5, b6, b7, b8, -⟩ := Quo.qv_true h2
  have mw := meth_whole
  have mb := meth_broken
  have cn := fun w => Lib.hid (numbersOf_is _ _ _ _ _ _ true true w (numB_one h1) h1 (numB_one h2) h2)
  obtain ⟨p1, p2⟩ := Quo.mul_bd b3 b4 b7 b8
  clear h1 h2
  go_enter Tryz.func74, Tryz.ntmps74
  go_wp2_with (first | (go_at_call 38; (with_reducible refine ((cn _).out).mono ?_); rintro e wn ⟨rfl, hbn⟩; obtain ⟨hcn, hfn⟩ := bcell hbn; have hzn : w.heap.size < wn.heap.size := (by have := hbn.size; (try simp at this); omega); have hzn1 : w.heap.size + 1 < wn.heap.size := (by have := hbn.size; (try simp at this); omega); have hzn2 : w.heap.size + 1 + 1 < wn.heap.size := (by have := hbn.size; (try simp at this); omega)) | (go_at_call 134; (with_reducible refine (parts_whole _ _).mono ?_); rintro e w' ⟨rfl, rfl⟩) | (go_at_call 135; (with_reducible refine (parts_broken _ _ _).mono ?_); rintro e wn ⟨rfl, hbn⟩; obtain ⟨hcn, hfn⟩ := bcell hbn; have hzn : w.heap.size < wn.heap.size := (by have := hbn.size; (try simp at this); omega); have hzn1 : w.heap.size + 1 < wn.heap.size := (by have := hbn.size; (try simp at this); omega); have hzn2 : w.heap.size + 1 + 1 < wn.heap.size := (by have := hbn.size; (try simp at this); omega)) | (go_at_call 39; (with_reducible refine (iof_any _ _ _).mono ?_); rintro e wn ⟨rfl, hbn⟩; obtain ⟨hcn, hfn⟩ := bcell hbn; have hzn : w.heap.size < wn.heap.size := (by have := hbn.size; (try simp at this); omega); have hzn1 : w.heap.size + 1 < wn.heap.size := (by have := hbn.size; (try simp at this); omega); have hzn2 : w.heap.size + 1 + 1 < wn.heap.size := (by have := hbn.size; (try simp at this); omega)))
  have c0 : wn.cell? ⟨w.heap.size + 1 + 1, 0, none⟩ = some (.int .i64 0) := by simp [*, go_sem]
  have c1 : wn.cell? ⟨w.heap.size + 1 + 1, 1, none⟩ = some (.int .i64 0) := by simp [*, go_sem]
  exact bodyPost_ret (v := .tuple #[.agg #[.int .i64 (Quo.rT (t * s) (1 * 1)), .int .i64 (Quo.rL (t * s) (1 * 1))], .bool (Quo.rOk (t * s) (1 * 1))]) (by simp [results, Tryz.results74, go_sem, c0, c1]) rfl ⟨rfl, (by repeat (first | assumption | exact Below.refl _ _ | (refine below_chain ?_ (by assumption) (by first | omega | (simp <;> omega) | simp)) | (refine Below.alloc ?_ (by first | omega | (simp <;> omega) | simp) _) | (apply below_drewN) | (apply below_drew) | (refine Below.setCell ?_ (by first | omega | (simp <;> omega) | simp) _)))⟩

theorem iTimes_1m (t s m : Int) (w : World) (h1 : Quo.qv t 1 = true) (h2 : Quo.qv s m = true) (k2 : m ≠ 1) :
    Calls Tryz.prog 74 #[.agg #[.int .i64 t, .int .i64 1], .agg #[.int .i64 s, .int .i64 m]] w fun e w' => e = .returned (.tuple #[.agg #[.int .i64 (Quo.rT (t * s) (1 * m)), .int .i64 (Quo.rL (t * s) (1 * m))], .bool (Quo.rOk (t * s) (1 * m))]) ∧ Below w.heap.size w w' := by
  obtain ⟨b1, b2, b3, b4, -⟩ := Quo.qv_true h1
  obtain ⟨b5, b6, b7, b8, -⟩ := Quo.qv_true h2
  have mw := meth_whole
  have mb := meth_broken
  have cn := fun w => Lib.hid (numbersOf_is _ _ _ _ _ _ true true w (numB_one h1) h1 (numB_more h2 k2) h2)
  obtain ⟨p1, p2⟩ := Quo.mul_bd b3 b4 b7 b8
  clear h1 h2
  go_enter Tryz.func74, Tryz.ntmps74
  go_wp2_with (first | (go_at_call 38; (with_reducible refine ((cn _).out).mono ?_); rintro e wn ⟨rfl, hbn⟩; obtain ⟨hcn, hfn⟩ := bcell hbn; have hzn : w.heap.size < wn.heap.size := (by have := hbn.size; (try simp at this); omega); have hzn1 : w.heap.size + 1 < wn.heap.size := (by have := hbn.size; (try simp at this); omega); have hzn2 : w.heap.size + 1 + 1 < wn.heap.size := (by have := hbn.size; (try simp at this); omega)) | (go_at_call 134; (with_reducible refine (parts_whole _ _).mono ?_); rintro e w' ⟨rfl, rfl⟩) | (go_at_call 135; (with_reducible refine (parts_broken _ _ _).mono ?_); rintro e wn ⟨rfl, hbn⟩; obtain ⟨hcn, hfn⟩ := bcell hbn; have hzn : w.heap.size < wn.heap.size := (by have := hbn.size; (try simp at this); omega); have hzn1 : w.heap.size + 1 < wn.heap.size := (by have := hbn.size; (try simp at this); omega); have hzn2 : w.heap.size + 1 + 1 < wn.heap.size := (by have := hbn.size; (try simp at this); omega)) | (go_at_call 39; (with_reducible refine (iof_any _ _ _).mono ?_); rintro e wn ⟨rfl, hbn⟩; obtain ⟨hcn, hfn⟩ := bcell hbn; have hzn : w.heap.size < wn.heap.size := (by have := hbn.size; (try simp at this); omega); have hzn1 : w.heap.size + 1 < wn.heap.size := (by have := hbn.size; (try simp at this); omega); have hzn2 : w.heap.size + 1 + 1 < wn.heap.size := (by have := hbn.size; (try simp at this); omega)))
  have c0 : wn.cell? ⟨w.heap.size + 1 + 1, 0, none⟩ = some (.int .i64 0) := by simp [*, go_sem]
  have c1 : wn.cell? ⟨w.heap.size + 1 + 1, 1, none⟩ = some (.int .i64 0) := by simp [*, go_sem]
  exact bodyPost_ret (v := .tuple #[.agg #[.int .i64 (Quo.rT (t * s) (1 * m)), .int .i64 (Quo.rL (t * s) (1 * m))], .bool (Quo.rOk (t * s) (1 * m))]) (by simp [results, Tryz.results74, go_sem, c0, c1]) rfl ⟨rfl, (by repeat (first | assumption | exact Below.refl _ _ | (refine below_chain ?_ (by assumption) (by first | omega | (simp <;> omega) | simp)) | (refine Below.alloc ?_ (by first | omega | (simp <;> omega) | simp) _) | (apply below_drewN) | (apply below_drew) | (refine Below.setCell ?_ (by first | omega | (simp <;> omega) | simp) _)))⟩

theorem iTimes_l1 (t l s : Int) (w : World) (h1 : Quo.qv t l = true) (h2 : Quo.qv s 1 = true) (k1 : l ≠ 1) :
    Calls Tryz.prog 74 #[.agg #[.int .i64 t, .int .i64 l], .agg #[.int .i64 s, .int .i64 1]] w fun e w' => e = .returned (.tuple #[.agg #[.int .i64 (Quo.rT (t * s) (l * 1)), .int .i64 (Quo.rL (t * s) (l * 1))], .bool (Quo.rOk (t * s) (l * 1))]) ∧ Below w.heap.size w w' := by
  obtain ⟨b1, b2, b3, b4, -⟩ := Quo.qv_true h1
  obtain ⟨b5, b6, b7, b8, -⟩ := Quo.qv_true h2
  have mw := meth_whole
  have mb := meth_broken
  have cn := fun w => Lib.hid (numbersOf_is _ _ _ _ _ _ true true w (numB_more h1 k1) h1 (numB_one h2) h2)
  obtain ⟨p1, p2⟩ := Quo.mul_bd b3 b4 b7 b8
  clear h1 h2
  go_enter Tryz.func74, Tryz.ntmps74
  go_wp2_with (first | (go_at_call 38; (with_reducible refine ((cn _).out).mono ?_); rintro e wn ⟨rfl, hbn⟩; obtain ⟨hcn, hfn⟩ := bcell hbn; have hzn : w.heap.size < wn.heap.size := (by have := hbn.size; (try simp at this); omega); have hzn1 : w.heap.size + 1 < wn.heap.size := (by have := hbn.size; (try simp at this); omega); have hzn2 : w.heap.size + 1 + 1 < wn.heap.size := (by have := hbn.size; (try simp at this); omega)) | (go_at_call 134; (with_reducible refine (parts_whole _ _).mono ?_); rintro e w' ⟨rfl, rfl⟩) | (go_at_call 135; (with_reducible refine (parts_broken _ _ _).mono ?_); rintro e wn ⟨rfl, hbn⟩; obtain ⟨hcn, hfn⟩ := bcell hbn; have hzn : w.heap.size < wn.heap.size := (by have := hbn.size; (try simp at this); omega); have hzn1 : w.heap.size + 1 < wn.heap.size := (by have := hbn.size; (try simp at this); omega); have hzn2 : w.heap.size + 1 + 1 < wn.heap.size := (by have := hbn.size; (try simp at this); omega)) | (go_at_call 39; (with_reducible refine (iof_any _ _ _).mono ?_); rintro e wn ⟨rfl, hbn⟩; obtain ⟨hcn, hfn⟩ := bcell hbn; have hzn : w.heap.size < wn.heap.size := (by have := hbn.size; (try simp at this); omega); have hzn1 : w.heap.size + 1 < wn.heap.size := (by have := hbn.size; (try simp at this); omega); have hzn2 : w.heap.size + 1 + 1 < wn.heap.size := (by have := hbn.size; (try simp at this); omega)))
  have c0 : wn.cell? ⟨w.heap.size + 1 + 1, 0, none⟩ = some (.int .i64 0) := by simp [*, go_sem]
  have c1 : wn.cell? ⟨w.heap.size + 1 + 1, 1, none⟩ = some (.int .i64 0) := by simp [*, go_sem]
  exact bodyPost_ret (v := .tuple #[.agg #[.int .i64 (Quo.rT (t * s) (l * 1)), .int .i64 (Quo.rL (t * s) (l * 1))], .bool (Quo.rOk (t * s) (l * 1))]) (by simp [results, Tryz.results74, go_sem, c0, c1]) rfl ⟨rfl, (by repeat (first | assumption | exact Below.refl _ _ | (refine below_chain ?_ (by assumption) (by first | omega | (simp <;> omega) | simp)) | (refine Below.alloc ?_ (by first | omega | (simp <;> omega) | simp) _) | (apply below_drewN) | (apply below_drew) | (refine Below.setCell ?_ (by first | omega | (simp <;> omega) | simp) _)))⟩

theorem iTimes_lm (t l s m : Int) (w : World) (h1 : Quo.qv t l = true) (h2 : Quo.qv s m = true) (k1 : l ≠ 1) (k2 : m ≠ 1) :
    Calls Tryz.prog 74 #[.agg #[.int .i64 t, .int .i64 l], .agg #[.int .i64 s, .int .i64 m]] w fun e w' => e = .returned (.tuple #[.agg #[.int .i64 (Quo.rT (t * s) (l * m)), .int .i64 (Quo.rL (t * s) (l * m))], .bool (Quo.rOk (t * s) (l * m))]) ∧ Below w.heap.size w w' := by
  obtain ⟨b1, b2, b3, b4, -⟩ := Quo.qv_true h1
  obtain ⟨b5, b6, b7, b8, -⟩ := Quo.qv_true h2
  have mw := meth_whole
  have mb := meth_broken
  have cn := fun w => Lib.hid (numbersOf_is _ _ _ _ _ _ true true w (numB_more h1 k1) h1 (numB_more h2 k2) h2)
  obtain ⟨p1, p2⟩ := Quo.mul_bd b3 b4 b7 b8
  obtain ⟨p5, p6⟩ := Quo.mul_bd (show -1000000000 ≤ l by omega) b2 (show -1000000000 ≤ m by omega) b6
  clear h1 h2
  go_enter Tryz.func74, Tryz.ntmps74
  go_wp2_with (first | (go_at_call 38; (with_reducible refine ((cn _).out).mono ?_); rintro e wn ⟨rfl, hbn⟩; obtain ⟨hcn, hfn⟩ := bcell hbn; have hzn : w.heap.size < wn.heap.size := (by have := hbn.size; (try simp at this); omega); have hzn1 : w.heap.size + 1 < wn.heap.size := (by have := hbn.size; (try simp at this); omega); have hzn2 : w.heap.size + 1 + 1 < wn.heap.size := (by have := hbn.size; (try simp at this); omega)) | (go_at_call 134; (with_reducible refine (parts_whole _ _).mono ?_); rintro e w' ⟨rfl, rfl⟩) | (go_at_call 135; (with_reducible refine (parts_broken _ _ _).mono ?_); rintro e wn ⟨rfl, hbn⟩; obtain ⟨hcn, hfn⟩ := bcell hbn; have hzn : w.heap.size < wn.heap.size := (by have := hbn.size; (try simp at this); omega); have hzn1 : w.heap.size + 1 < wn.heap.size := (by have := hbn.size; (try simp at this); omega); have hzn2 : w.heap.size + 1 + 1 < wn.heap.size := (by have := hbn.size; (try simp at this); omega)) | (go_at_call 39; (with_reducible refine (iof_any _ _ _).mono ?_); rintro e wn ⟨rfl, hbn⟩; obtain ⟨hcn, hfn⟩ := bcell hbn; have hzn : w.heap.size < wn.heap.size := (by have := hbn.size; (try simp at this); omega); have hzn1 : w.heap.size + 1 < wn.heap.size := (by have := hbn.size; (try simp at this); omega); have hzn2 : w.heap.size + 1 + 1 < wn.heap.size := (by have := hbn.size; (try simp at this); omega)))
  have c0 : wn.cell? ⟨w.heap.size + 1 + 1, 0, none⟩ = some (.int .i64 0) := by simp [*, go_sem]
  have c1 : wn.cell? ⟨w.heap.size + 1 + 1, 1, none⟩ = some (.int .i64 0) := by simp [*, go_sem]
  exact bodyPost_ret (v := .tuple #[.agg #[.int .i64 (Quo.rT (t * s) (l * m)), .int .i64 (Quo.rL (t * s) (l * m))], .bool (Quo.rOk (t * s) (l * m))]) (by simp [results, Tryz.results74, go_sem, c0, c1]) rfl ⟨rfl, (by repeat (first | assumption | exact Below.refl _ _ | (refine below_chain ?_ (by assumption) (by first | omega | (simp <;> omega) | simp)) | (refine Below.alloc ?_ (by first | omega | (simp <;> omega) | simp) _) | (apply below_drewN) | (apply below_drew) | (refine Below.setCell ?_ (by first | omega | (simp <;> omega) | simp) _)))⟩
end Go.Proofs.YtddmbjobibljaaaGreatDoor
