/-
  For every code the law FnBearingOf returns true: a bearing is its own bearing, the opposite step has the opposite bearing, and the step is a multiple of its bearing by a positive number. No condition: every list of bytes is taken.
-/
import Derived.Test.YtigmhhdbldlgaaaDBo
import Derived.Test.YtigmhhdbldlgaaaCode
import Derived.Test.YtigmhhdbldlgaaaBOrd
import Derived.WalkLawsBesides
namespace Go.Proofs.Ytigmhhdbldlgaaa.fnBearingOf
open Go.ChangeShapes Go.WideShapes Go.ChangeAt Go.RowKit
set_option linter.unusedVariables false

/-- a bearing is its own bearing -/
theorem self {x y : Int} (hb : Pt.br x y = true) : Pt.ofB x y = true ∧ Pt.ofX x y = x ∧ Pt.ofY x y = y := by
  obtain ⟨h1, h2⟩ := Pt.br_true hb
  have h3 : Pt.ofB x y = true := by
    unfold Pt.ofB
    rw [h1]
    have : (x == 0 && y == 0) = false := by
      rw [Bool.eq_false_iff]; intro h; simp at h; exact Pt.br_nz hb h
    rw [this]; rfl
  refine ⟨h3, ?_, ?_⟩
  · unfold Pt.ofX; rw [h3, h2]; simp
  · unfold Pt.ofY; rw [h3, h2]; simp
/-- what is known of a step that has a bearing: g times the bearing is the step -/
theorem parts {a b : Int} (h : Pt.ofB a b = true) : ∃ g x y : Int, Pt.ofX a b = x ∧ Pt.ofY a b = y ∧ Pt.br x y = true ∧ 1 ≤ g ∧ g * x = a ∧ g * y = b ∧
    Pt.ofX x y = x ∧ Pt.ofY x y = y ∧ Pt.ofB x y = true ∧ Pt.ofX (-a) (-b) = -x ∧ Pt.ofY (-a) (-b) = -y ∧ Pt.ofB (-a) (-b) = true := by
  have hb := Pt.of_br h
  obtain ⟨h1, h2⟩ := Pt.ofB_true h
  have hp := Pt.gcd_pos h2
  obtain ⟨s1, s2, s3, s4⟩ := Pt.sv_true h1
  have hn : Pt.ofB (-a) (-b) = true := by
    unfold Pt.ofB
    rw [Pt.sv_in (by omega) (by omega) (by omega) (by omega)]
    have : (-a == 0 && -b == 0) = false := by
      rw [Bool.eq_false_iff]; intro h; simp at h; omega
    rw [this]; rfl
  obtain ⟨z1, z2, z3⟩ := self hb
  have hng : Int.gcd (-a) (-b) = Int.gcd a b := by simp
  have e1 : Pt.ofX a b = a.tdiv (Int.gcd a b) := by unfold Pt.ofX; rw [h]; rfl
  have e2 : Pt.ofY a b = b.tdiv (Int.gcd a b) := by unfold Pt.ofY; rw [h]; rfl
  refine ⟨(Int.gcd a b : Int), Pt.ofX a b, Pt.ofY a b, rfl, rfl, hb, by omega, ?_, ?_, z2, z3, z1, ?_, ?_, hn⟩
  · rw [e1]; exact Int.mul_tdiv_cancel' (Int.gcd_dvd_left a b)
  · rw [e2]; exact Int.mul_tdiv_cancel' (Int.gcd_dvd_right a b)
  · rw [e1]; unfold Pt.ofX; rw [hn, hng]; simp [Int.neg_tdiv]
  · rw [e2]; unfold Pt.ofY; rw [hn, hng]; simp [Int.neg_tdiv]
/-- the greatest of two numbers and their opposites -/
def mx (a b : Int) : Int := max (a.natAbs : Int) (b.natAbs : Int)
theorem run4 (P : Program) (ts : Array TypeId) (t : TypeId) (a b m : Int) (w : World) (h : mx a b = m) : (Builtin.max_ ts t #[.int .i64 a, .int .i64 (-a), .int .i64 b, .int .i64 (-b)]).run P w = .ok (.int .i64 m) w := by
  have e : (if -b > (if b > (if -a > a then -a else a) then b else (if -a > a then -a else a)) then -b else (if b > (if -a > a then -a else a) then b else (if -a > a then -a else a))) = m := by
    rw [← h]; unfold mx; repeat' split
    all_goals omega
  simp [Builtin.max_, Builtin.max2]
  simpa using e
theorem mx_mul {g x y : Int} (h : 1 ≤ g) : mx (g * x) (g * y) = g * mx x y := by
  unfold mx
  rw [Int.natAbs_mul, Int.natAbs_mul]
  have hg : (g.natAbs : Int) = g := by omega
  rw [Int.natCast_mul, Int.natCast_mul, hg]
  rcases Int.le_total (x.natAbs : Int) (y.natAbs : Int) with h1 | h1
  · have := Int.mul_le_mul_of_nonneg_left h1 (show 0 ≤ g by omega)
    rw [Int.max_eq_right h1, Int.max_eq_right this]
  · have := Int.mul_le_mul_of_nonneg_left h1 (show 0 ≤ g by omega)
    rw [Int.max_eq_left h1, Int.max_eq_left this]
theorem mx_pos {x y : Int} (h : ¬ (x = 0 ∧ y = 0)) (h1 : -20000 ≤ x) (h2 : x ≤ 20000) (h3 : -20000 ≤ y) (h4 : y ≤ 20000) : 1 ≤ mx x y ∧ mx x y ≤ 20000 := by unfold mx; omega
theorem is_x {a b x y : Int} {t : Bool} (w : World) (h1 : Pt.ofX a b = x) (h2 : Pt.ofY a b = y) (h3 : Pt.ofB a b = t) :
    Calls Try.prog 33 #[.agg #[.int .i64 a, .int .i64 b]] w fun e w' => e = .returned (.tuple #[.agg #[.int .i64 x, .int .i64 y], .bool t]) ∧ Below w.heap.size w w' := by
  rw [← h1, ← h2, ← h3]; exact iOf_any a b w
theorem s_x {a b x y : Int} {t : Bool} (w : World) (h1 : Pt.ofX a b = x) (h2 : Pt.ofY a b = y) (h3 : Pt.ofB a b = t) :
    Calls Try.prog 34 #[.agg #[.int .i64 a, .int .i64 b]] w fun e w' => e = .returned (.tuple #[.agg #[.int .i64 x, .int .i64 y], .bool t]) ∧ Below w.heap.size w w' := by
  rw [← h1, ← h2, ← h3]; exact sOf_any a b w

set_option maxHeartbeats 4000000 in
set_option maxRecDepth 100000 in
theorem walk (len cap : Nat) (p : Option Addr) (w : World) (hl : len ≤ 1048576) (h : Hid (Code' w (.slice p len cap))) :
    Calls Try.prog 7 #[.slice p len cap] w fun e w' => e = .returned (.bool true) ∧ Below w.heap.size w w' := by
  have hl' : ¬ (1048576 : Int) < (len : Int) := by omega
  go_enter Try.func7, Try.ntmps7
  go_wp2_with (go_at_call 32; (with_reducible refine (drawBOf_any _ _ h).mono ?_); rintro e wd ⟨a, b, rfl, hbd⟩; obtain ⟨hcn, hfn⟩ := bcell hbd; have hsd := hbd.size)
  by_cases h3 : Pt.ofB a b = true
  · obtain ⟨g, x, y, f1, f2, hb, g1, e1, e2, f3, f4, f5, f6, f7, f8⟩ := parts h3
    obtain ⟨p1, p2, p3, p4⟩ := Pt.sv_true (Pt.ofB_true h3).1
    obtain ⟨p5, p6, p7, p8⟩ := Pt.sv_true (Pt.br_true hb).1
    have k1 := fun w => Lib.hid (is_x w f1 f2 h3)
    have k2 := fun w => Lib.hid (s_x w f1 f2 h3)
    have k3 := fun w => Lib.hid (is_x w f3 f4 f5)
    have k4 := fun w => Lib.hid (is_x w f6 f7 f8)
    have k5 := fun w => Lib.hid (iBack_yes x y w hb)
    have E1 := Lib.hid e1
    have E2 := Lib.hid e2
    obtain ⟨n1, n2⟩ := mx_pos (Pt.br_nz hb) p5 p6 p7 p8
    have hM := mx_mul (x := x) (y := y) g1
    rw [e1, e2] at hM
    obtain ⟨N, hN⟩ : ∃ N, mx x y = N := ⟨_, rfl⟩
    obtain ⟨M, hM2⟩ : ∃ M, mx a b = M := ⟨_, rfl⟩
    rw [hN] at hM n1 n2
    rw [hM2] at hM
    have r1 := fun (w : World) (ts : Array TypeId) (t : TypeId) => run4 Try.prog ts t a b M w hM2
    have r2 := fun (w : World) (ts : Array TypeId) (t : TypeId) => run4 Try.prog ts t x y N w hN
    have hM0 : 0 ≤ M := by rw [← hM2]; unfold mx; omega
    have hM1 : M ≤ 20000 := by rw [← hM2]; unfold mx; omega
    have q1 : M / N = g := by rw [hM]; exact Int.mul_ediv_cancel _ (by omega)
    have b1 : (g * x == a) = true := by simpa using e1
    have b2 : (g * y == b) = true := by simpa using e2
    have b3 : -20000 ≤ g * x := by omega
    have b4 : g * x ≤ 20000 := by omega
    have b5 : -20000 ≤ g * y := by omega
    have b6 : g * y ≤ 20000 := by omega
    clear hM hN hM2 E1 E2
    clear h3 f1 f2 hb e1 e2 f3 f4 f5 f6 f7 f8
    go_wp2_with (first | (go_at_call 33; (with_reducible refine ((k1 _).out).mono ?_); rintro e w1 ⟨rfl, hbn⟩; obtain ⟨hcn, hfn⟩ := bcell hbn; (try simp only [World.size_drew, World.cell?_drew, World.frozen?_drew, World.heap_drewN, World.cell?_drewN, World.frozen?_drewN] at hcn hfn); have hsz := hbn.size; (try simp at hsz); (try have hsl := Nat.lt_of_succ_le hsz); (try have hz0 : wd.heap.size < w1.heap.size := (by have := hbn.size; (try simp at this); omega))) | (go_at_call 34; (with_reducible refine ((k2 _).out).mono ?_); rintro e w2 ⟨rfl, hbn⟩; obtain ⟨hcn, hfn⟩ := bcell hbn; (try simp only [World.size_drew, World.cell?_drew, World.frozen?_drew, World.heap_drewN, World.cell?_drewN, World.frozen?_drewN] at hcn hfn); have hsz := hbn.size; (try simp at hsz); (try have hsl := Nat.lt_of_succ_le hsz); (try have hz0 : wd.heap.size < w2.heap.size := (by have := hbn.size; (try simp at this); omega)); (try have hz1 : w1.heap.size < w2.heap.size := (by have := hbn.size; (try simp at this); omega))) | (go_at_call 33; (with_reducible refine ((k3 _).out).mono ?_); rintro e w3 ⟨rfl, hbn⟩; obtain ⟨hcn, hfn⟩ := bcell hbn; (try simp only [World.size_drew, World.cell?_drew, World.frozen?_drew, World.heap_drewN, World.cell?_drewN, World.frozen?_drewN] at hcn hfn); have hsz := hbn.size; (try simp at hsz); (try have hsl := Nat.lt_of_succ_le hsz); (try have hz0 : wd.heap.size < w3.heap.size := (by have := hbn.size; (try simp at this); omega)); (try have hz1 : w1.heap.size < w3.heap.size := (by have := hbn.size; (try simp at this); omega)); (try have hz2 : w2.heap.size < w3.heap.size := (by have := hbn.size; (try simp at this); omega))) | (go_at_call 33; (with_reducible refine ((k4 _).out).mono ?_); rintro e w4 ⟨rfl, hbn⟩; obtain ⟨hcn, hfn⟩ := bcell hbn; (try simp only [World.size_drew, World.cell?_drew, World.frozen?_drew, World.heap_drewN, World.cell?_drewN, World.frozen?_drewN] at hcn hfn); have hsz := hbn.size; (try simp at hsz); (try have hsl := Nat.lt_of_succ_le hsz); (try have hz0 : wd.heap.size < w4.heap.size := (by have := hbn.size; (try simp at this); omega)); (try have hz1 : w1.heap.size < w4.heap.size := (by have := hbn.size; (try simp at this); omega)); (try have hz2 : w2.heap.size < w4.heap.size := (by have := hbn.size; (try simp at this); omega)); (try have hz3 : w3.heap.size < w4.heap.size := (by have := hbn.size; (try simp at this); omega))) | (go_at_call 35; (with_reducible refine ((k5 _).out).mono ?_); rintro e w5 ⟨rfl, hbn⟩; obtain ⟨hcn, hfn⟩ := bcell hbn; (try simp only [World.size_drew, World.cell?_drew, World.frozen?_drew, World.heap_drewN, World.cell?_drewN, World.frozen?_drewN] at hcn hfn); have hsz := hbn.size; (try simp at hsz); (try have hsl := Nat.lt_of_succ_le hsz); (try have hz0 : wd.heap.size < w5.heap.size := (by have := hbn.size; (try simp at this); omega)); (try have hz1 : w1.heap.size < w5.heap.size := (by have := hbn.size; (try simp at this); omega)); (try have hz2 : w2.heap.size < w5.heap.size := (by have := hbn.size; (try simp at this); omega)); (try have hz3 : w3.heap.size < w5.heap.size := (by have := hbn.size; (try simp at this); omega)); (try have hz4 : w4.heap.size < w5.heap.size := (by have := hbn.size; (try simp at this); omega))))
    go_ret
    exact ⟨rfl, (by repeat (first | with_reducible assumption | with_reducible exact Below.refl _ _ | (with_reducible refine below_chain ?_ (by with_reducible assumption) (by first | omega | (simp <;> omega) | simp)) | (with_reducible refine below_gb ?_ (by with_reducible assumption) (by first | omega | (simp <;> omega) | simp) (by first | omega | (simp <;> omega) | simp)) | (with_reducible refine Below.alloc ?_ (by first | omega | (simp <;> omega) | simp) _) | (with_reducible refine below_drewN ?_ _) | (with_reducible refine below_drew ?_) | (with_reducible refine Below.setCell ?_ (by first | omega | (simp <;> omega) | simp) _)))⟩
  · have h3' : Pt.ofB a b = false := by simpa using h3
    have z1 : Pt.ofX a b = 0 := by unfold Pt.ofX; rw [h3']; rfl
    have z2 : Pt.ofY a b = 0 := by unfold Pt.ofY; rw [h3']; rfl
    have k1 := fun w => Lib.hid (is_x w z1 z2 h3')
    have k2 := fun w => Lib.hid (s_x w z1 z2 h3')
    clear h3 h3' z1 z2
    go_wp2_with (first | (go_at_call 33; (with_reducible refine ((k1 _).out).mono ?_); rintro e w1 ⟨rfl, hbn⟩; obtain ⟨hcn, hfn⟩ := bcell hbn; (try simp only [World.size_drew, World.cell?_drew, World.frozen?_drew, World.heap_drewN, World.cell?_drewN, World.frozen?_drewN] at hcn hfn); have hsz := hbn.size; (try simp at hsz); (try have hsl := Nat.lt_of_succ_le hsz); (try have hz0 : wd.heap.size < w1.heap.size := (by have := hbn.size; (try simp at this); omega))) | (go_at_call 34; (with_reducible refine ((k2 _).out).mono ?_); rintro e w2 ⟨rfl, hbn⟩; obtain ⟨hcn, hfn⟩ := bcell hbn; (try simp only [World.size_drew, World.cell?_drew, World.frozen?_drew, World.heap_drewN, World.cell?_drewN, World.frozen?_drewN] at hcn hfn); have hsz := hbn.size; (try simp at hsz); (try have hsl := Nat.lt_of_succ_le hsz); (try have hz0 : wd.heap.size < w2.heap.size := (by have := hbn.size; (try simp at this); omega)); (try have hz1 : w1.heap.size < w2.heap.size := (by have := hbn.size; (try simp at this); omega))))
    go_ret
    exact ⟨rfl, (by repeat (first | with_reducible assumption | with_reducible exact Below.refl _ _ | (with_reducible refine below_chain ?_ (by with_reducible assumption) (by first | omega | (simp <;> omega) | simp)) | (with_reducible refine below_gb ?_ (by with_reducible assumption) (by first | omega | (simp <;> omega) | simp) (by first | omega | (simp <;> omega) | simp)) | (with_reducible refine Below.alloc ?_ (by first | omega | (simp <;> omega) | simp) _) | (with_reducible refine below_drewN ?_ _) | (with_reducible refine below_drew ?_) | (with_reducible refine Below.setCell ?_ (by first | omega | (simp <;> omega) | simp) _)))⟩

theorem walk_long (len cap : Nat) (p : Option Addr) (w : World) (hl : 1048576 < len) :
    Calls Try.prog 7 #[.slice p len cap] w fun e w' => e = .returned (.bool true) ∧ Below w.heap.size w w' := by
  have hl' : (1048576 : Int) < (len : Int) := by omega
  go_enter Try.func7, Try.ntmps7
  go_wp2
  go_ret
  exact ⟨rfl, Below.refl _ _⟩

set_option maxRecDepth 100000 in
theorem lifted (os : Os) (started : os.Started) (H : Type) (enc : TypeId × Value → H) :
    ReturnsInHanded {} Try.checked os 7 .any (Rows.fnBearingOfSpec.pre6 enc Try.prog Try.f7 Rows.fnBearingOfRow.domain false) (Rows.fnBearingOfSpec.post enc Try.prog Try.f7 false true false false) := by
  refine returnsInHanded_of_change (C := Try.checked) own started (by kernel_rfl) Try.func7
    (ChangeSpec.witness6 (enc := enc) (C := Try.checked) false ⟨#[], #[.slice none 0 0], []⟩ 8 (by kernel_rfl) (by kernel_rfl) (by kernel_rfl) (by kernel_rfl)) ?_
  intro W base args ds gs before hval0 hW hcnd _
  have hval : ∀ (j : Nat) t v, Try.f7.params[j]? = some t → args[j]? = some v → Value.okWide Try.prog W .any base t v := hval0
  have hW' := hW
  obtain ⟨p, q, hA0, hV, rfl, hfz, hnd⟩ := hW
  have hA : DataW.TrodAll enc Try.prog W 0 (fun _ => true) true Try.f7.params.toList args.toList ds p := hA0
  rw [Try.params7] at hA hval
  obtain ⟨v0, vs0, d0, ds0, p0, q0, hargs, rfl, rfl, h0, r0⟩ := trodAll_cons hA
  obtain ⟨rfl, rfl, rfl⟩ := trodAll_nil r0
  obtain rfl : args = #[v0] := by cases args; simp_all
  obtain ⟨rfl, rfl⟩ := trodVars_none hV
  obtain ⟨a0, len0, cap0, rfl⟩ := okWide_slice Try.underlying22 (hval 0 22 v0 rfl rfl)
  have k0 := h0
  have lt0 : ∀ x ∈ p0, x.block < W.heap.size := by obtain ⟨m, hm⟩ := k0; exact DataW.trod_lt m _ _ _ hm
  obtain ⟨z0, w0⟩ : ∃ zs, IsRow .u8 W a0 len0 cap0 zs := by
    obtain ⟨fuel, hf⟩ := h0
    rcases open_ints Try.underlying22 Try.underlying5 (by kernel_rfl) hf with ⟨hcs, _⟩ | ⟨x, l, c, zs, hcs, _, hl, hm, hz, _, hcell, hwz⟩
    · simp [Value.cells] at hcs
      obtain ⟨rfl, rfl, rfl⟩ := hcs
      exact ⟨[], .inl ⟨rfl, rfl, rfl, rfl⟩⟩
    · simp [Value.cells] at hcs
      obtain ⟨rfl, rfl, rfl⟩ := hcs
      exact ⟨zs, .inr ⟨_, rfl, hl, hm, by simpa using hz, hcell, hwz⟩⟩
  clear hA0 hval0
  have hw : Calls Try.prog 7 #[.slice a0 len0 cap0] W fun e w' => e = .returned (.bool true) ∧ Below W.heap.size W w' := by
    by_cases hl : len0 ≤ 1048576
    · exact walk len0 cap0 a0 W hl (Lib.hid (code_of_row w0 hl))
    · exact walk_long len0 cap0 a0 W (by omega)
  refine hw.mono fun e W' ⟨he, bel⟩ => ?_
  subst he
  exact ⟨_, rfl, _, _, _, [], _, [], hW', trodAll_mk1 (shut_bool Try.underlying4 _), (trodAll_cons_mk (Below.trod laidOut (by kernel_rfl) (of_decide_eq_true (by kernel_rfl)) k0 bel lt0) trodAll_mk0), rfl, bel.frame _, fun h => by cases h⟩

theorem over : Rows.fnBearingOfRow.holds Try.pinned (OpenSpec.ofChange Rows.fnBearingOfSpec) :=
  OpenClaim.holds_of_wide 7 Try.f7 rfl rfl rfl rfl rfl rfl rfl ⟨rfl, rfl, rfl, rfl, rfl⟩ rfl rfl rfl rfl rfl (by kernel_rfl) Try.func7 (by kernel_rfl)
    (of_decide_eq_true (by kernel_rfl)) (by unfold Func.isWrapper; first | (rw [if_pos (by decide +kernel)]; kernel_rfl) | (rw [if_neg (by decide +kernel)]; exact ⟨rfl, rfl⟩))
    (fun os started H enc _ => lifted os started H enc)

theorem proved : Rows.FnBearingOfSaid := over
end Go.Proofs.Ytigmhhdbldlgaaa.fnBearingOf

