/-
  The steps of the points' chapter: coordinates as places, validity, steps, products.
  A list of points is valid if each one is.
  What PointSide and PointOn of the program answer, as functions on coordinates.
  What PointStep, PointMove, PointFar and PointGaps of the program answer, as functions on coordinates.
  What the reference model's functions on points answer, as functions on coordinates.
  What the reference model's PointSide and PointOn answer, as functions on coordinates.
  What PointStep, PointFar and PointGaps answer, in both programs the same.
  Two arrays of two integers compared.
  What PointOn of the program makes of its three points: three variables that hold their coordinates, in whatever order they are made.
  What PointSide answers, in both programs the same.
  What PointOn answers, in both programs the same.
-/
import Derived.Test.YtgncjpakclbegaaQz
import Derived.Test.YtgncjpakclbegaaPMath
import Derived.Deep.RegionHeld3
import Derived.Deep.DeepCutAuto
import Derived.Test.YtgncjpakclbegaaZa
import Derived.Test.YtgncjpakclbegaaTwo
set_option linter.unusedSimpArgs false
set_option linter.unusedVariables false
namespace Go.Proofs.Ytgncjpakclbegaa
open Go.RowKit
set_option linter.unusedVariables false

theorem within_is (n m : Int) (b : Bool) (w : World) (hm : 0 ≤ m) (hm' : m ≤ 4000000000000000000) (h : decide (-m ≤ n ∧ n ≤ m) = b) :
    Calls Try.prog 125 #[.int .i64 n, .int .i64 m] w fun e w' => e = .returned (.bool b) ∧ w = w' := by
  subst h
  by_cases h : -m ≤ n ∧ n ≤ m
  · simp only [h, and_self, decide_true]; exact within_yes n m w h.1 h.2 hm hm'
  · have := within_no n m w (by omega) hm hm'
    simpa [h] using this

theorem placeOf_any (x y : Int) (w : World) :
    Calls Try.prog 85 #[.agg #[.int .i64 x, .int .i64 y]] w fun e w' => e = .returned (.agg #[.int .i64 x, .int .i64 y]) ∧ Below w.heap.size w w' := by
  go_enter Try.func85, Try.ntmps85
  go_wp2
  exact bodyPost_ret (v := .agg #[.int .i64 x, .int .i64 y]) (by simp [results, Try.results85, go_sem]) rfl ⟨rfl, (by repeat (first | assumption | exact Below.refl _ _ | (refine below_chain ?_ (by assumption) (by first | omega | (simp <;> omega) | simp)) | (refine Below.alloc ?_ (by first | omega | (simp <;> omega) | simp) _) | (apply below_drewN) | (apply below_drew) | (refine Below.setCell ?_ (by first | omega | (simp <;> omega) | simp) _)))⟩
theorem point_any (x y : Int) (w : World) :
    Calls Try.prog 90 #[.agg #[.int .i64 x, .int .i64 y]] w fun e w' => e = .returned (.agg #[.int .i64 x, .int .i64 y]) ∧ Below w.heap.size w w' := by
  go_enter Try.func90, Try.ntmps90
  go_wp2
  exact bodyPost_ret (v := .agg #[.int .i64 x, .int .i64 y]) (by simp [results, Try.results90, go_sem]) rfl ⟨rfl, (by repeat (first | assumption | exact Below.refl _ _ | (refine below_chain ?_ (by assumption) (by first | omega | (simp <;> omega) | simp)) | (refine Below.alloc ?_ (by first | omega | (simp <;> omega) | simp) _) | (apply below_drewN) | (apply below_drew) | (refine Below.setCell ?_ (by first | omega | (simp <;> omega) | simp) _)))⟩
theorem isWithin_is (x y m : Int) (a b : Bool) (w : World) (hm : 0 ≤ m) (hm' : m ≤ 4000000000000000000) (ha : decide (-m ≤ x ∧ x ≤ m) = a) (hb : decide (-m ≤ y ∧ y ≤ m) = b) :
    Calls Try.prog 111 #[.agg #[.int .i64 x, .int .i64 y], .int .i64 m] w fun e w' => e = .returned (.bool (a && b)) ∧ Below w.heap.size w w' := by
  have c1 := fun w => Lib.hid (within_is x m a w hm hm' ha)
  have c2 := fun w => Lib.hid (within_is y m b w hm hm' hb)
  clear ha hb
  cases a <;> cases b
  all_goals
    go_enter Try.func111, Try.ntmps111
    go_wp2_with (first | (go_at_call 125; (with_reducible refine ((c1 _).out).mono ?_); rintro e w' ⟨rfl, rfl⟩) | (go_at_call 125; (with_reducible refine ((c2 _).out).mono ?_); rintro e w' ⟨rfl, rfl⟩))
    go_ret
    exact ⟨rfl, (by repeat (first | assumption | exact Below.refl _ _ | (refine below_chain ?_ (by assumption) (by first | omega | (simp <;> omega) | simp)) | (refine Below.alloc ?_ (by first | omega | (simp <;> omega) | simp) _) | (apply below_drewN) | (apply below_drew) | (refine Below.setCell ?_ (by first | omega | (simp <;> omega) | simp) _)))⟩
theorem ipv_any (x y : Int) (w : World) :
    Calls Try.prog 74 #[.agg #[.int .i64 x, .int .i64 y]] w fun e w' => e = .returned (.bool (Pt.pv x y)) ∧ Below w.heap.size w w' := by
  have e : Pt.pv x y = (decide (-10000 ≤ x ∧ x ≤ 10000) && decide (-10000 ≤ y ∧ y ≤ 10000)) := by unfold Pt.pv; rw [← Bool.decide_and]; apply decide_eq_decide.2; omega
  rw [e]
  clear e
  go_enter Try.func74, Try.ntmps74
  go_wp2_with (first | (go_at_call 85; (with_reducible refine (placeOf_any _ _ _).mono ?_); rintro e wn ⟨rfl, hbn⟩; obtain ⟨hcn, hfn⟩ := bcell hbn; have hzn : w.heap.size < wn.heap.size := (by have := hbn.size; (try simp at this); omega)) | (go_at_call 111; (with_reducible refine (isWithin_is _ _ _ _ _ _ (by decide) (by decide) rfl rfl).mono ?_); rintro e wn ⟨rfl, hbn⟩; obtain ⟨hcn, hfn⟩ := bcell hbn; have hzn : w.heap.size < wn.heap.size := (by have := hbn.size; (try simp at this); omega)))
  go_ret
  exact ⟨ret_bool (by simp), (by repeat (first | assumption | exact Below.refl _ _ | (refine below_chain ?_ (by assumption) (by first | omega | (simp <;> omega) | simp)) | (refine Below.alloc ?_ (by first | omega | (simp <;> omega) | simp) _) | (apply below_drewN) | (apply below_drew) | (refine Below.setCell ?_ (by first | omega | (simp <;> omega) | simp) _)))⟩
theorem istep_any (x y : Int) (w : World) :
    Calls Try.prog 116 #[.agg #[.int .i64 x, .int .i64 y]] w fun e w' => e = .returned (.bool (Pt.sv x y)) ∧ Below w.heap.size w w' := by
  have e : Pt.sv x y = (decide (-20000 ≤ x ∧ x ≤ 20000) && decide (-20000 ≤ y ∧ y ≤ 20000)) := by unfold Pt.sv; rw [← Bool.decide_and]; apply decide_eq_decide.2; omega
  rw [e]
  clear e
  go_enter Try.func116, Try.ntmps116
  go_wp2_with (first | (go_at_call 85; (with_reducible refine (placeOf_any _ _ _).mono ?_); rintro e wn ⟨rfl, hbn⟩; obtain ⟨hcn, hfn⟩ := bcell hbn; have hzn : w.heap.size < wn.heap.size := (by have := hbn.size; (try simp at this); omega)) | (go_at_call 111; (with_reducible refine (isWithin_is _ _ _ _ _ _ (by decide) (by decide) rfl rfl).mono ?_); rintro e wn ⟨rfl, hbn⟩; obtain ⟨hcn, hfn⟩ := bcell hbn; have hzn : w.heap.size < wn.heap.size := (by have := hbn.size; (try simp at this); omega)))
  go_ret
  exact ⟨ret_bool (by simp), (by repeat (first | assumption | exact Below.refl _ _ | (refine below_chain ?_ (by assumption) (by first | omega | (simp <;> omega) | simp)) | (refine Below.alloc ?_ (by first | omega | (simp <;> omega) | simp) _) | (apply below_drewN) | (apply below_drew) | (refine Below.setCell ?_ (by first | omega | (simp <;> omega) | simp) _)))⟩
theorem ipv_is (x y : Int) (b : Bool) (w : World) (h : Pt.pv x y = b) :
    Calls Try.prog 74 #[.agg #[.int .i64 x, .int .i64 y]] w fun e w' => e = .returned (.bool b) ∧ Below w.heap.size w w' := by
  rw [← h]; exact ipv_any x y w

theorem istep_is (x y : Int) (b : Bool) (w : World) (h : Pt.sv x y = b) :
    Calls Try.prog 116 #[.agg #[.int .i64 x, .int .i64 y]] w fun e w' => e = .returned (.bool b) ∧ Below w.heap.size w w' := by
  rw [← h]; exact istep_any x y w

theorem to_any (a b c d : Int) (w : World) (h1 : Pt.pv a b = true) (h2 : Pt.pv c d = true) :
    Calls Try.prog 89 #[.agg #[.int .i64 a, .int .i64 b], .agg #[.int .i64 c, .int .i64 d]] w fun e w' => e = .returned (.agg #[.int .i64 (c - a), .int .i64 (d - b)]) ∧ Below w.heap.size w w' := by
  obtain ⟨p1, p2, p3, p4⟩ := Pt.pv_true h1
  obtain ⟨q1, q2, q3, q4⟩ := Pt.pv_true h2
  clear h1 h2
  go_enter Try.func89, Try.ntmps89
  go_wp2
  exact bodyPost_ret (v := .agg #[.int .i64 (c - a), .int .i64 (d - b)]) (by simp [results, Try.results89, go_sem]) rfl ⟨rfl, (by repeat (first | assumption | exact Below.refl _ _ | (refine below_chain ?_ (by assumption) (by first | omega | (simp <;> omega) | simp)) | (refine Below.alloc ?_ (by first | omega | (simp <;> omega) | simp) _) | (apply below_drewN) | (apply below_drew) | (refine Below.setCell ?_ (by first | omega | (simp <;> omega) | simp) _)))⟩
theorem plus_any (a b c d : Int) (w : World) (h1 : Pt.pv a b = true) (h2 : Pt.sv c d = true) :
    Calls Try.prog 135 #[.agg #[.int .i64 a, .int .i64 b], .agg #[.int .i64 c, .int .i64 d]] w fun e w' => e = .returned (.agg #[.int .i64 (a + c), .int .i64 (b + d)]) ∧ Below w.heap.size w w' := by
  obtain ⟨p1, p2, p3, p4⟩ := Pt.pv_true h1
  obtain ⟨q1, q2, q3, q4⟩ := Pt.sv_true h2
  clear h1 h2
  go_enter Try.func135, Try.ntmps135
  go_wp2
  exact bodyPost_ret (v := .agg #[.int .i64 (a + c), .int .i64 (b + d)]) (by simp [results, Try.results135, go_sem]) rfl ⟨rfl, (by repeat (first | assumption | exact Below.refl _ _ | (refine below_chain ?_ (by assumption) (by first | omega | (simp <;> omega) | simp)) | (refine Below.alloc ?_ (by first | omega | (simp <;> omega) | simp) _) | (apply below_drewN) | (apply below_drew) | (refine Below.setCell ?_ (by first | omega | (simp <;> omega) | simp) _)))⟩
theorem dot_any (a b c d : Int) (w : World) (h1 : Pt.sv a b = true) (h2 : Pt.sv c d = true) :
    Calls Try.prog 142 #[.agg #[.int .i64 a, .int .i64 b], .agg #[.int .i64 c, .int .i64 d]] w fun e w' => e = .returned (.int .i64 (Pt.dt a b c d)) ∧ Below w.heap.size w w' := by
  obtain ⟨p1, p2, p3, p4⟩ := Pt.sv_true h1
  obtain ⟨q1, q2, q3, q4⟩ := Pt.sv_true h2
  clear h1 h2
  obtain ⟨r1, r2⟩ := Pt.mul_bd p1 p2 q1 q2
  obtain ⟨s1, s2⟩ := Pt.mul_bd p3 p4 q3 q4
  unfold Pt.dt
  go_enter Try.func142, Try.ntmps142
  go_wp2
  go_ret
  exact ⟨rfl, (by repeat (first | assumption | exact Below.refl _ _ | (refine below_chain ?_ (by assumption) (by first | omega | (simp <;> omega) | simp)) | (refine Below.alloc ?_ (by first | omega | (simp <;> omega) | simp) _) | (apply below_drewN) | (apply below_drew) | (refine Below.setCell ?_ (by first | omega | (simp <;> omega) | simp) _)))⟩
theorem cross_any (a b c d : Int) (w : World) (h1 : Pt.sv a b = true) (h2 : Pt.sv c d = true) :
    Calls Try.prog 108 #[.agg #[.int .i64 a, .int .i64 b], .agg #[.int .i64 c, .int .i64 d]] w fun e w' => e = .returned (.int .i64 (Pt.cr a b c d)) ∧ Below w.heap.size w w' := by
  obtain ⟨p1, p2, p3, p4⟩ := Pt.sv_true h1
  obtain ⟨q1, q2, q3, q4⟩ := Pt.sv_true h2
  clear h1 h2
  obtain ⟨r1, r2⟩ := Pt.mul_bd p1 p2 q3 q4
  obtain ⟨s1, s2⟩ := Pt.mul_bd p3 p4 q1 q2
  unfold Pt.cr
  go_enter Try.func108, Try.ntmps108
  go_wp2
  go_ret
  exact ⟨rfl, (by repeat (first | assumption | exact Below.refl _ _ | (refine below_chain ?_ (by assumption) (by first | omega | (simp <;> omega) | simp)) | (refine Below.alloc ?_ (by first | omega | (simp <;> omega) | simp) _) | (apply below_drewN) | (apply below_drew) | (refine Below.setCell ?_ (by first | omega | (simp <;> omega) | simp) _)))⟩
end Go.Proofs.Ytgncjpakclbegaa
namespace Go.Proofs.Ytgncjpakclbegaa
open Go.RowKit
set_option linter.unusedVariables false

def allV (f g : Nat → Int) : Nat → Bool
  | 0 => true
  | k + 1 => allV f g k && Pt.pv (f k) (g k)
theorem allV_no {f g : Nat → Int} {k n : Nat} (h : k < n) (hk : Pt.pv (f k) (g k) = false) : allV f g n = false := by
  induction n with
  | zero => omega
  | succ n ih =>
    simp only [allV]
    by_cases e : k = n
    · subst e; simp [hk]
    · rw [ih (by omega)]; rfl

theorem pointsValid_any (B n : Nat) (f g : Nat → Int) (w : World) (hn : n ≤ 1000) (hB : B < w.heap.size)
    (hc : ∀ i, i < n → w.cell? ⟨B, i * 2, none⟩ = some (.int .i64 (f i)) ∧ w.cell? ⟨B, i * 2 + 1, none⟩ = some (.int .i64 (g i))) :
    Calls Try.prog 86 #[.slice (some ⟨B, 0, none⟩) n n] w fun e w' => e = .returned (.bool (allV f g n)) ∧ Below w.heap.size w w' := by
  have H := Lib.hid hc
  clear hc
  go_enter Try.func86, Try.ntmps86
  go_wp2
  go_loopw [4, 7] (fun _ i wr => ∃ k : Nat, k ≤ n ∧ i = .int .i64 k ∧ Hid (allV f g k = true) ∧ Below w.heap.size w wr) (fun _ i _ => n - (intOf i).toNat)
  case atStart => exact ⟨0, Nat.zero_le _, rfl, Lib.hid rfl, (by repeat (first | assumption | exact Below.refl _ _ | (refine below_chain ?_ (by assumption) (by first | omega | (simp <;> omega) | simp)) | (refine Below.alloc ?_ (by first | omega | (simp <;> omega) | simp) _) | (apply below_drewN) | (apply below_drew) | (refine Below.setCell ?_ (by first | omega | (simp <;> omega) | simp) _)))⟩
  case round =>
    obtain ⟨k, hk, rfl, hv, hb⟩ := hrel
    by_cases hlt : k < n
    · have c0 : wr.cell? ⟨B, k * 2, none⟩ = some (.int .i64 (f k)) := by rw [hb.cell (p := ⟨B, k * 2, none⟩) hB]; exact (H.out k hlt).1
      have c1 : wr.cell? ⟨B, k * 2 + 1, none⟩ = some (.int .i64 (g k)) := by rw [hb.cell (p := ⟨B, k * 2 + 1, none⟩) hB]; exact (H.out k hlt).2
      have hbs := hb.size
      by_cases hp : Pt.pv (f k) (g k) = true
      · have cv := fun w => Lib.hid (ipv_is (f k) (g k) true w hp)
        have hn2 : Hid (allV f g (k + 1) = true) := Lib.hid (by simp only [allV]; rw [hv.out, hp]; rfl)
        clear hp
        go_wp2_with (go_at_call 74; (with_reducible refine ((cv _).out).mono ?_); rintro e wn ⟨rfl, hbn⟩)
        go_roundw
        case rel => exact ⟨k + 1, by omega, by go_num, hn2, (by repeat (first | assumption | exact Below.refl _ _ | (refine below_chain ?_ (by assumption) (by first | omega | (simp <;> omega) | simp)) | (refine Below.alloc ?_ (by first | omega | (simp <;> omega) | simp) _) | (apply below_drewN) | (apply below_drew) | (refine Below.setCell ?_ (by first | omega | (simp <;> omega) | simp) _)))⟩
        case measure => simp [intOf]; omega
      · have hp' : Pt.pv (f k) (g k) = false := by simpa using hp
        have cv := fun w => Lib.hid (ipv_is (f k) (g k) false w hp')
        have hn2 : Hid (allV f g n = false) := Lib.hid (allV_no hlt hp')
        clear hp hp'
        go_wp2_with (go_at_call 74; (with_reducible refine ((cv _).out).mono ?_); rintro e wn ⟨rfl, hbn⟩)
        go_ret
        exact ⟨ret_bool hn2.out.symm, (by repeat (first | assumption | exact Below.refl _ _ | (refine below_chain ?_ (by assumption) (by first | omega | (simp <;> omega) | simp)) | (refine Below.alloc ?_ (by first | omega | (simp <;> omega) | simp) _) | (apply below_drewN) | (apply below_drew) | (refine Below.setCell ?_ (by first | omega | (simp <;> omega) | simp) _)))⟩
    · have e : k = n := by omega
      subst e
      go_wp2
      go_ret
      exact ⟨ret_bool hv.out.symm, hb⟩

def pick2 (a c : Int) : Nat → Int | 0 => a | _ => c
def pick3 (a c e : Int) : Nat → Int | 0 => a | 1 => c | _ => e
def both (a b c d : Int) : Bool := Pt.pv a b && Pt.pv c d
theorem both_true {a b c d : Int} (h : both a b c d = true) : Pt.pv a b = true ∧ Pt.pv c d = true := by unfold both at h; simpa using h
def three (a b c d u v : Int) : Bool := Pt.pv a b && Pt.pv c d && Pt.pv u v
theorem three_true {a b c d u v : Int} (h : three a b c d u v = true) : Pt.pv a b = true ∧ Pt.pv c d = true ∧ Pt.pv u v = true := by unfold three at h; simp at h; exact ⟨h.1.1, h.1.2, h.2⟩
theorem valid2 (a b c d : Int) (q : Bool) (B : Nat) (w : World) (hB : B < w.heap.size) (h0 : w.cell? ⟨B, 0, none⟩ = some (.int .i64 a)) (h1 : w.cell? ⟨B, 1, none⟩ = some (.int .i64 b)) (h2 : w.cell? ⟨B, 2, none⟩ = some (.int .i64 c)) (h3 : w.cell? ⟨B, 3, none⟩ = some (.int .i64 d)) (hq : both a b c d = q) :
    Calls Try.prog 86 #[.slice (some ⟨B, 0, none⟩) 2 2] w fun e w' => e = .returned (.bool q) ∧ Below w.heap.size w w' := by
  have := pointsValid_any B 2 (pick2 a c) (pick2 b d) w (by omega) hB (fun i hi => by
    rcases (show i = 0 ∨ i = 1 by omega) with rfl | rfl
    · exact ⟨h0, h1⟩
    · exact ⟨h2, h3⟩)
  rw [← hq]; simpa [allV, pick2, both] using this
theorem valid3 (a b c d u v : Int) (q : Bool) (B : Nat) (w : World) (hB : B < w.heap.size) (h0 : w.cell? ⟨B, 0, none⟩ = some (.int .i64 a)) (h1 : w.cell? ⟨B, 1, none⟩ = some (.int .i64 b)) (h2 : w.cell? ⟨B, 2, none⟩ = some (.int .i64 c)) (h3 : w.cell? ⟨B, 3, none⟩ = some (.int .i64 d)) (h4 : w.cell? ⟨B, 4, none⟩ = some (.int .i64 u)) (h5 : w.cell? ⟨B, 5, none⟩ = some (.int .i64 v)) (hq : three a b c d u v = q) :
    Calls Try.prog 86 #[.slice (some ⟨B, 0, none⟩) 3 3] w fun e w' => e = .returned (.bool q) ∧ Below w.heap.size w w' := by
  have := pointsValid_any B 3 (pick3 a c u) (pick3 b d v) w (by omega) hB (fun i hi => by
    rcases (show i = 0 ∨ i = 1 ∨ i = 2 by omega) with rfl | rfl | rfl
    · exact ⟨h0, h1⟩
    · exact ⟨h2, h3⟩
    · exact ⟨h4, h5⟩)
  rw [← hq]; simpa [allV, pick3, three] using this

end Go.Proofs.Ytgncjpakclbegaa
namespace Go.Proofs.Ytgncjpakclbegaa
open Go.RowKit
set_option linter.unusedVariables false

theorem nan_any (a : Int) (w : World) :
    Calls Try.prog 147 #[.int .i64 a] w fun e w' => e = .returned (.bool false) ∧ w = w' := by
  go_enter Try.func147, Try.ntmps147
  go_wp2
  go_ret
  exact ⟨ret_bool (by simp), rfl⟩
theorem pcompare_any (a b : Int) (w : World) :
    Calls Try.prog 143 #[.int .i64 a, .int .i64 b] w fun e w' => e = .returned (.int .i64 (if a < b then -1 else if b < a then 1 else 0)) ∧ w = w' := by
  by_cases h1 : a < b
  · simp only [h1, if_true]
    go_enter Try.func143, Try.ntmps143
    go_wp2_with ((go_at_call 147; (with_reducible refine (nan_any _ _).mono ?_); rintro e w' ⟨rfl, rfl⟩))
    go_ret
    exact ⟨rfl, rfl⟩
  · by_cases h2 : b < a
    · simp only [h1, h2, if_true, if_false]
      go_enter Try.func143, Try.ntmps143
      go_wp2_with ((go_at_call 147; (with_reducible refine (nan_any _ _).mono ?_); rintro e w' ⟨rfl, rfl⟩))
      go_ret
      exact ⟨rfl, rfl⟩
    · simp only [h1, h2, if_false]
      go_enter Try.func143, Try.ntmps143
      go_wp2_with ((go_at_call 147; (with_reducible refine (nan_any _ _).mono ?_); rintro e w' ⟨rfl, rfl⟩))
      go_ret
      exact ⟨rfl, rfl⟩
theorem compare_is (a b s : Int) (w : World) (h : (if a < b then -1 else if b < a then 1 else 0) = s) :
    Calls Try.prog 143 #[.int .i64 a, .int .i64 b] w fun e w' => e = .returned (.int .i64 s) ∧ w = w' := by
  rw [← h]; exact pcompare_any a b w

theorem iSide_no (a b c d u v : Int) (w : World) (h : three a b c d u v = false) :
    Calls Try.prog 132 #[.agg #[.int .i64 a, .int .i64 b], .agg #[.int .i64 c, .int .i64 d], .agg #[.int .i64 u, .int .i64 v]] w fun e w' => e = .returned (.tuple #[.int .i64 0, .bool false]) ∧ Below w.heap.size w w' := by
  go_enter Try.func132, Try.ntmps132
  go_wp2_with ((go_at_call 86; (with_reducible refine (valid3 a b c d u v false _ _ ?_ ?_ ?_ ?_ ?_ ?_ ?_ h).mono ?_); (focus ((first | (simp; omega) | omega | (simp [*, go_sem]; done) | (simp; done)); done)); (focus ((first | (simp; omega) | omega | (simp [*, go_sem]; done) | (simp; done)); done)); (focus ((first | (simp; omega) | omega | (simp [*, go_sem]; done) | (simp; done)); done)); (focus ((first | (simp; omega) | omega | (simp [*, go_sem]; done) | (simp; done)); done)); (focus ((first | (simp; omega) | omega | (simp [*, go_sem]; done) | (simp; done)); done)); (focus ((first | (simp; omega) | omega | (simp [*, go_sem]; done) | (simp; done)); done)); (focus ((first | (simp; omega) | omega | (simp [*, go_sem]; done) | (simp; done)); done)); rintro e wv ⟨rfl, hbn⟩; obtain ⟨hcn, hfn⟩ := bcell hbn; (try simp only [World.size_drew, World.cell?_drew, World.frozen?_drew, World.heap_drewN, World.cell?_drewN, World.frozen?_drewN] at hcn hfn); have hsz := hbn.size; (try simp at hsz); (try have hsl := Nat.lt_of_succ_le hsz); (try have hz0 : w.heap.size < wv.heap.size := (by have := hbn.size; (try simp at this); omega)); (try have hz1 : w.heap.size + 1 < wv.heap.size := (by have := hbn.size; (try simp at this); omega)); (try have hz2 : w.heap.size + 1 + 1 < wv.heap.size := (by have := hbn.size; (try simp at this); omega)); (try have hz3 : w.heap.size + 1 + 1 + 1 < wv.heap.size := (by have := hbn.size; (try simp at this); omega))))
  go_ret2
  exact ⟨rfl, (by repeat (first | assumption | exact Below.refl _ _ | (refine below_chain ?_ (by assumption) (by first | omega | (simp <;> omega) | simp)) | (refine Below.alloc ?_ (by first | omega | (simp <;> omega) | simp) _) | (apply below_drewN) | (apply below_drew) | (refine Below.setCell ?_ (by first | omega | (simp <;> omega) | simp) _)))⟩
set_option maxHeartbeats 4000000 in
theorem iSide_yes (a b c d u v s : Int) (w : World) (h : three a b c d u v = true) (hs : (if Pt.cr (c - a) (d - b) (u - a) (v - b) < 0 then -1 else if 0 < Pt.cr (c - a) (d - b) (u - a) (v - b) then 1 else 0) = s) :
    Calls Try.prog 132 #[.agg #[.int .i64 a, .int .i64 b], .agg #[.int .i64 c, .int .i64 d], .agg #[.int .i64 u, .int .i64 v]] w fun e w' => e = .returned (.tuple #[.int .i64 s, .bool true]) ∧ Below w.heap.size w w' := by
  obtain ⟨h1, h2, h3⟩ := three_true h
  have cv := fun B w hB a0 a1 a2 a3 a4 a5 => Lib.hid (valid3 a b c d u v true B w hB a0 a1 a2 a3 a4 a5 h)
  have ct := fun w => Lib.hid (to_any a b c d w h1 h2)
  have cu := fun w => Lib.hid (to_any a b u v w h1 h3)
  have cc := fun w => Lib.hid (cross_any (c - a) (d - b) (u - a) (v - b) w (Pt.sv_of h1 h2) (Pt.sv_of h1 h3))
  have cp := fun w => Lib.hid (compare_is _ _ s w hs)
  clear h h1 h2 h3 hs
  go_enter Try.func132, Try.ntmps132
  go_wp2_with (first | (go_at_call 86; (with_reducible refine ((cv _ _ ?_ ?_ ?_ ?_ ?_ ?_ ?_).out).mono ?_); (focus ((first | (simp; omega) | omega | (simp [*, go_sem]; done) | (simp; done)); done)); (focus ((first | (simp; omega) | omega | (simp [*, go_sem]; done) | (simp; done)); done)); (focus ((first | (simp; omega) | omega | (simp [*, go_sem]; done) | (simp; done)); done)); (focus ((first | (simp; omega) | omega | (simp [*, go_sem]; done) | (simp; done)); done)); (focus ((first | (simp; omega) | omega | (simp [*, go_sem]; done) | (simp; done)); done)); (focus ((first | (simp; omega) | omega | (simp [*, go_sem]; done) | (simp; done)); done)); (focus ((first | (simp; omega) | omega | (simp [*, go_sem]; done) | (simp; done)); done)); rintro e wv ⟨rfl, hbn⟩; obtain ⟨hcn, hfn⟩ := bcell hbn; (try simp only [World.size_drew, World.cell?_drew, World.frozen?_drew, World.heap_drewN, World.cell?_drewN, World.frozen?_drewN] at hcn hfn); have hsz := hbn.size; (try simp at hsz); (try have hsl := Nat.lt_of_succ_le hsz); (try have hz0 : w.heap.size < wv.heap.size := (by have := hbn.size; (try simp at this); omega)); (try have hz1 : w.heap.size + 1 < wv.heap.size := (by have := hbn.size; (try simp at this); omega)); (try have hz2 : w.heap.size + 1 + 1 < wv.heap.size := (by have := hbn.size; (try simp at this); omega)); (try have hz3 : w.heap.size + 1 + 1 + 1 < wv.heap.size := (by have := hbn.size; (try simp at this); omega))) | (go_at_call 85; (with_reducible refine (placeOf_any a b _).mono ?_); rintro e w0 ⟨rfl, hbn⟩; obtain ⟨hcn, hfn⟩ := bcell hbn; (try simp only [World.size_drew, World.cell?_drew, World.frozen?_drew, World.heap_drewN, World.cell?_drewN, World.frozen?_drewN] at hcn hfn); have hsz := hbn.size; (try simp at hsz); (try have hsl := Nat.lt_of_succ_le hsz); (try have hz0 : w.heap.size < w0.heap.size := (by have := hbn.size; (try simp at this); omega)); (try have hz1 : w.heap.size + 1 < w0.heap.size := (by have := hbn.size; (try simp at this); omega)); (try have hz2 : w.heap.size + 1 + 1 < w0.heap.size := (by have := hbn.size; (try simp at this); omega)); (try have hz3 : w.heap.size + 1 + 1 + 1 < w0.heap.size := (by have := hbn.size; (try simp at this); omega)); (try have hz4 : wv.heap.size < w0.heap.size := (by have := hbn.size; (try simp at this); omega))))
  go_upto_region 5 with fail
  go_cut [6, 7, 9] (fun s6 s7 s9 wx => s6 = .int .i64 0 ∧ s7 = .bool false ∧ s9 = .int .i64 (Pt.cr (c - a) (d - b) (u - a) (v - b)) ∧ Below w.heap.size w wx)
  case first =>
    go_region_held3 (fun W => W.cell? ⟨w.heap.size + 1, 0, none⟩ = some (.int .i64 c) ∧ W.cell? ⟨w.heap.size + 1, 1, none⟩ = some (.int .i64 d) ∧ W.cell? ⟨w.heap.size + 1 + 1, 0, none⟩ = some (.int .i64 u) ∧ W.cell? ⟨w.heap.size + 1 + 1, 1, none⟩ = some (.int .i64 v) ∧ W.cell? ⟨w0.heap.size, 0, none⟩ = some (.int .i64 a) ∧ W.cell? ⟨w0.heap.size, 1, none⟩ = some (.int .i64 b)) (((try dsimp only); (try go_split_ands); refine ⟨?_, ?_, ?_, ?_, ?_, ?_⟩ <;> (first | ((repeat (first | with_reducible assumption | (with_reducible refine cell_below_keep (by with_reducible assumption) ?_) | (simp [go_sem]; done) | (with_reducible refine cell_alloc_keep _ ?_) | (with_reducible refine cell_drew_keep ?_) | (with_reducible refine cell_drewN_keep _ ?_) | (with_reducible refine cell_set_keep _ (by first | (simp; omega) | omega) ?_))); done) | (simp [*, go_sem]; done))))
      (first | (go_at_call 85; (with_reducible refine (placeOf_any c d _).mono ?_); rintro e w1 ⟨rfl, hbn⟩; obtain ⟨hcn, hfn⟩ := bcell hbn; (try simp only [World.size_drew, World.cell?_drew, World.frozen?_drew, World.heap_drewN, World.cell?_drewN, World.frozen?_drewN] at hcn hfn); have hsz := hbn.size; (try simp at hsz); (try have hsl := Nat.lt_of_succ_le hsz); (try have hz0 : w.heap.size < w1.heap.size := (by have := hbn.size; (try simp at this); omega)); (try have hz1 : w.heap.size + 1 < w1.heap.size := (by have := hbn.size; (try simp at this); omega)); (try have hz2 : w.heap.size + 1 + 1 < w1.heap.size := (by have := hbn.size; (try simp at this); omega)); (try have hz3 : w.heap.size + 1 + 1 + 1 < w1.heap.size := (by have := hbn.size; (try simp at this); omega)); (try have hz4 : wv.heap.size < w1.heap.size := (by have := hbn.size; (try simp at this); omega)); (try have hz5 : w0.heap.size < w1.heap.size := (by have := hbn.size; (try simp at this); omega))) | (go_at_call 85; (with_reducible refine (placeOf_any u v _).mono ?_); rintro e w2 ⟨rfl, hbn⟩; obtain ⟨hcn, hfn⟩ := bcell hbn; (try simp only [World.size_drew, World.cell?_drew, World.frozen?_drew, World.heap_drewN, World.cell?_drewN, World.frozen?_drewN] at hcn hfn); have hsz := hbn.size; (try simp at hsz); (try have hsl := Nat.lt_of_succ_le hsz); (try have hz0 : w.heap.size < w2.heap.size := (by have := hbn.size; (try simp at this); omega)); (try have hz1 : w.heap.size + 1 < w2.heap.size := (by have := hbn.size; (try simp at this); omega)); (try have hz2 : w.heap.size + 1 + 1 < w2.heap.size := (by have := hbn.size; (try simp at this); omega)); (try have hz3 : w.heap.size + 1 + 1 + 1 < w2.heap.size := (by have := hbn.size; (try simp at this); omega)); (try have hz4 : wv.heap.size < w2.heap.size := (by have := hbn.size; (try simp at this); omega)); (try have hz5 : w0.heap.size < w2.heap.size := (by have := hbn.size; (try simp at this); omega)); (try have hz6 : w1.heap.size < w2.heap.size := (by have := hbn.size; (try simp at this); omega))) | (go_at_call 89; (with_reducible refine ((ct _).out).mono ?_); rintro e w3 ⟨rfl, hbn⟩; obtain ⟨hcn, hfn⟩ := bcell hbn; (try simp only [World.size_drew, World.cell?_drew, World.frozen?_drew, World.heap_drewN, World.cell?_drewN, World.frozen?_drewN] at hcn hfn); have hsz := hbn.size; (try simp at hsz); (try have hsl := Nat.lt_of_succ_le hsz); (try have hz0 : w.heap.size < w3.heap.size := (by have := hbn.size; (try simp at this); omega)); (try have hz1 : w.heap.size + 1 < w3.heap.size := (by have := hbn.size; (try simp at this); omega)); (try have hz2 : w.heap.size + 1 + 1 < w3.heap.size := (by have := hbn.size; (try simp at this); omega)); (try have hz3 : w.heap.size + 1 + 1 + 1 < w3.heap.size := (by have := hbn.size; (try simp at this); omega)); (try have hz4 : wv.heap.size < w3.heap.size := (by have := hbn.size; (try simp at this); omega)); (try have hz5 : w0.heap.size < w3.heap.size := (by have := hbn.size; (try simp at this); omega)); (try have hz6 : w1.heap.size < w3.heap.size := (by have := hbn.size; (try simp at this); omega)); (try have hz7 : w2.heap.size < w3.heap.size := (by have := hbn.size; (try simp at this); omega))) | (go_at_call 89; (with_reducible refine ((cu _).out).mono ?_); rintro e w4 ⟨rfl, hbn⟩; obtain ⟨hcn, hfn⟩ := bcell hbn; (try simp only [World.size_drew, World.cell?_drew, World.frozen?_drew, World.heap_drewN, World.cell?_drewN, World.frozen?_drewN] at hcn hfn); have hsz := hbn.size; (try simp at hsz); (try have hsl := Nat.lt_of_succ_le hsz); (try have hz0 : w.heap.size < w4.heap.size := (by have := hbn.size; (try simp at this); omega)); (try have hz1 : w.heap.size + 1 < w4.heap.size := (by have := hbn.size; (try simp at this); omega)); (try have hz2 : w.heap.size + 1 + 1 < w4.heap.size := (by have := hbn.size; (try simp at this); omega)); (try have hz3 : w.heap.size + 1 + 1 + 1 < w4.heap.size := (by have := hbn.size; (try simp at this); omega)); (try have hz4 : wv.heap.size < w4.heap.size := (by have := hbn.size; (try simp at this); omega)); (try have hz5 : w0.heap.size < w4.heap.size := (by have := hbn.size; (try simp at this); omega)); (try have hz6 : w1.heap.size < w4.heap.size := (by have := hbn.size; (try simp at this); omega)); (try have hz7 : w2.heap.size < w4.heap.size := (by have := hbn.size; (try simp at this); omega)); (try have hz8 : w3.heap.size < w4.heap.size := (by have := hbn.size; (try simp at this); omega))) | (go_at_call 108; (with_reducible refine ((cc _).out).mono ?_); rintro e w5 ⟨rfl, hbn⟩; obtain ⟨hcn, hfn⟩ := bcell hbn; (try simp only [World.size_drew, World.cell?_drew, World.frozen?_drew, World.heap_drewN, World.cell?_drewN, World.frozen?_drewN] at hcn hfn); have hsz := hbn.size; (try simp at hsz); (try have hsl := Nat.lt_of_succ_le hsz); (try have hz0 : w.heap.size < w5.heap.size := (by have := hbn.size; (try simp at this); omega)); (try have hz1 : w.heap.size + 1 < w5.heap.size := (by have := hbn.size; (try simp at this); omega)); (try have hz2 : w.heap.size + 1 + 1 < w5.heap.size := (by have := hbn.size; (try simp at this); omega)); (try have hz3 : w.heap.size + 1 + 1 + 1 < w5.heap.size := (by have := hbn.size; (try simp at this); omega)); (try have hz4 : wv.heap.size < w5.heap.size := (by have := hbn.size; (try simp at this); omega)); (try have hz5 : w0.heap.size < w5.heap.size := (by have := hbn.size; (try simp at this); omega))))
    all_goals go_wp2_with fail
    all_goals (go_meet; exact ⟨rfl, rfl, rfl, (by repeat (first | assumption | exact Below.refl _ _ | (refine below_chain ?_ (by assumption) (by first | omega | (simp <;> omega) | simp)) | (refine Below.alloc ?_ (by first | omega | (simp <;> omega) | simp) _) | (apply below_drewN) | (apply below_drew) | (refine Below.setCell ?_ (by first | omega | (simp <;> omega) | simp) _)))⟩)
  case rest =>
    obtain ⟨rfl, rfl, rfl, hb⟩ := hcut
    go_wp2_with ((go_at_call 143; (with_reducible refine ((cp _).out).mono ?_); rintro e w' ⟨rfl, rfl⟩))
    go_ret2
    exact ⟨rfl, hb⟩
end Go.Proofs.Ytgncjpakclbegaa
namespace Go.Proofs.Ytgncjpakclbegaa
open Go.RowKit
set_option linter.unusedVariables false

theorem iStep_no (a b c d : Int) (w : World) (h : both a b c d = false) :
    Calls Try.prog 40 #[.agg #[.int .i64 a, .int .i64 b], .agg #[.int .i64 c, .int .i64 d]] w fun e w' => e = .returned (.tuple #[.agg #[.int .i64 0, .int .i64 0], .bool false]) ∧ Below w.heap.size w w' := by
  go_enter Try.func40, Try.ntmps40
  go_wp2_with ((go_at_call 86; (with_reducible refine (valid2 a b c d false _ _ ?_ ?_ ?_ ?_ ?_ h).mono ?_); (focus ((first | (simp; omega) | omega | (simp [*, go_sem]; done) | (simp; done)); done)); (focus ((first | (simp; omega) | omega | (simp [*, go_sem]; done) | (simp; done)); done)); (focus ((first | (simp; omega) | omega | (simp [*, go_sem]; done) | (simp; done)); done)); (focus ((first | (simp; omega) | omega | (simp [*, go_sem]; done) | (simp; done)); done)); (focus ((first | (simp; omega) | omega | (simp [*, go_sem]; done) | (simp; done)); done)); rintro e wn ⟨rfl, hbn⟩; obtain ⟨hcn, hfn⟩ := bcell hbn; (try simp only [World.size_drew, World.cell?_drew, World.frozen?_drew, World.heap_drewN, World.cell?_drewN, World.frozen?_drewN] at hcn hfn); have hsz := hbn.size; (try simp at hsz); (try have hsl := Nat.lt_of_succ_le hsz); (try have hz0 : w.heap.size + 1 + 1 < wn.heap.size := (by have := hbn.size; (try simp at this); omega))))
  exact bodyPost_ret (v := .tuple #[.agg #[.int .i64 0, .int .i64 0], .bool false]) (by simp [results, Try.results40, go_sem, *]) rfl ⟨rfl, (by repeat (first | assumption | exact Below.refl _ _ | (refine below_chain ?_ (by assumption) (by first | omega | (simp <;> omega) | simp)) | (refine Below.alloc ?_ (by first | omega | (simp <;> omega) | simp) _) | (apply below_drewN) | (apply below_drew) | (refine Below.setCell ?_ (by first | omega | (simp <;> omega) | simp) _)))⟩
theorem iStep_yes (a b c d : Int) (w : World) (h : both a b c d = true) :
    Calls Try.prog 40 #[.agg #[.int .i64 a, .int .i64 b], .agg #[.int .i64 c, .int .i64 d]] w fun e w' => e = .returned (.tuple #[.agg #[.int .i64 (c - a), .int .i64 (d - b)], .bool true]) ∧ Below w.heap.size w w' := by
  obtain ⟨h1, h2⟩ := both_true h
  have cv := fun B w hB a0 a1 a2 a3 => Lib.hid (valid2 a b c d true B w hB a0 a1 a2 a3 h)
  have ct := fun w => Lib.hid (to_any a b c d w h1 h2)
  clear h h1 h2
  go_enter Try.func40, Try.ntmps40
  go_wp2_with ((go_at_call 86; (with_reducible refine ((cv _ _ ?_ ?_ ?_ ?_ ?_).out).mono ?_); (focus ((first | (simp; omega) | omega | (simp [*, go_sem]; done) | (simp; done)); done)); (focus ((first | (simp; omega) | omega | (simp [*, go_sem]; done) | (simp; done)); done)); (focus ((first | (simp; omega) | omega | (simp [*, go_sem]; done) | (simp; done)); done)); (focus ((first | (simp; omega) | omega | (simp [*, go_sem]; done) | (simp; done)); done)); (focus ((first | (simp; omega) | omega | (simp [*, go_sem]; done) | (simp; done)); done)); rintro e wv ⟨rfl, hbn⟩; obtain ⟨hcn, hfn⟩ := bcell hbn; (try simp only [World.size_drew, World.cell?_drew, World.frozen?_drew, World.heap_drewN, World.cell?_drewN, World.frozen?_drewN] at hcn hfn); have hsz := hbn.size; (try simp at hsz); (try have hsl := Nat.lt_of_succ_le hsz); (try have hz0 : w.heap.size < wv.heap.size := (by have := hbn.size; (try simp at this); omega)); (try have hz1 : w.heap.size + 1 < wv.heap.size := (by have := hbn.size; (try simp at this); omega)); (try have hz2 : w.heap.size + 1 + 1 < wv.heap.size := (by have := hbn.size; (try simp at this); omega))))
  go_region_held3 (fun W => W.cell? ⟨w.heap.size, 0, none⟩ = some (.int .i64 a) ∧ W.cell? ⟨w.heap.size, 1, none⟩ = some (.int .i64 b) ∧ W.cell? ⟨w.heap.size + 1, 0, none⟩ = some (.int .i64 c) ∧ W.cell? ⟨w.heap.size + 1, 1, none⟩ = some (.int .i64 d)) (((try dsimp only); refine ⟨?_, ?_, ?_, ?_⟩ <;> (simp [*, go_sem]; done)))
    (first | (go_at_call 85; (with_reducible refine (placeOf_any _ _ _).mono ?_); rintro e wn ⟨rfl, hbn⟩; obtain ⟨hcn, hfn⟩ := bcell hbn; (try simp only [World.size_drew, World.cell?_drew, World.frozen?_drew, World.heap_drewN, World.cell?_drewN, World.frozen?_drewN] at hcn hfn); have hsz := hbn.size; (try simp at hsz); (try have hsl := Nat.lt_of_succ_le hsz); (try have hz0 : w.heap.size < wn.heap.size := (by have := hbn.size; (try simp at this); omega)); (try have hz1 : w.heap.size + 1 < wn.heap.size := (by have := hbn.size; (try simp at this); omega)); (try have hz2 : w.heap.size + 1 + 1 < wn.heap.size := (by have := hbn.size; (try simp at this); omega))) | (go_at_call 89; (with_reducible refine ((ct _).out).mono ?_); rintro e wn ⟨rfl, hbn⟩; obtain ⟨hcn, hfn⟩ := bcell hbn; (try simp only [World.size_drew, World.cell?_drew, World.frozen?_drew, World.heap_drewN, World.cell?_drewN, World.frozen?_drewN] at hcn hfn); have hsz := hbn.size; (try simp at hsz); (try have hsl := Nat.lt_of_succ_le hsz); (try have hz0 : w.heap.size < wn.heap.size := (by have := hbn.size; (try simp at this); omega)); (try have hz1 : w.heap.size + 1 < wn.heap.size := (by have := hbn.size; (try simp at this); omega)); (try have hz2 : w.heap.size + 1 + 1 < wn.heap.size := (by have := hbn.size; (try simp at this); omega))) | (go_at_call 90; (with_reducible refine (point_any _ _ _).mono ?_); rintro e wn ⟨rfl, hbn⟩; obtain ⟨hcn, hfn⟩ := bcell hbn; (try simp only [World.size_drew, World.cell?_drew, World.frozen?_drew, World.heap_drewN, World.cell?_drewN, World.frozen?_drewN] at hcn hfn); have hsz := hbn.size; (try simp at hsz); (try have hsl := Nat.lt_of_succ_le hsz); (try have hz0 : w.heap.size < wn.heap.size := (by have := hbn.size; (try simp at this); omega)); (try have hz1 : w.heap.size + 1 < wn.heap.size := (by have := hbn.size; (try simp at this); omega)); (try have hz2 : w.heap.size + 1 + 1 < wn.heap.size := (by have := hbn.size; (try simp at this); omega))))
  all_goals go_wp2_with fail
  all_goals exact bodyPost_ret (v := .tuple #[.agg #[.int .i64 (c - a), .int .i64 (d - b)], .bool true]) (by simp [results, Try.results40, go_sem, *]) rfl ⟨rfl, (by repeat (first | assumption | exact Below.refl _ _ | (refine below_chain ?_ (by assumption) (by first | omega | (simp <;> omega) | simp)) | (refine Below.alloc ?_ (by first | omega | (simp <;> omega) | simp) _) | (apply below_drewN) | (apply below_drew) | (refine Below.setCell ?_ (by first | omega | (simp <;> omega) | simp) _)))⟩

theorem iStep_any (a b c d : Int) (w : World) :
    Calls Try.prog 40 #[.agg #[.int .i64 a, .int .i64 b], .agg #[.int .i64 c, .int .i64 d]] w fun e w' => e = .returned (.tuple #[.agg #[.int .i64 (if both a b c d then c - a else 0), .int .i64 (if both a b c d then d - b else 0)], .bool (both a b c d)]) ∧ Below w.heap.size w w' := by
  by_cases h : both a b c d = true
  · simp only [h, if_true]; exact iStep_yes a b c d w h
  · have h' : both a b c d = false := by simpa using h
    simp only [h', Bool.false_eq_true, if_false]; exact iStep_no a b c d w h'

theorem iGaps_no (a b c d : Int) (w : World) (h : both a b c d = false) :
    Calls Try.prog 110 #[.agg #[.int .i64 a, .int .i64 b], .agg #[.int .i64 c, .int .i64 d]] w fun e w' => e = .returned (.int .i64 (-1)) ∧ Below w.heap.size w w' := by
  go_enter Try.func110, Try.ntmps110
  go_wp2_with ((go_at_call 86; (with_reducible refine (valid2 a b c d false _ _ ?_ ?_ ?_ ?_ ?_ h).mono ?_); (focus ((first | (simp; omega) | omega | (simp [*, go_sem]; done) | (simp; done)); done)); (focus ((first | (simp; omega) | omega | (simp [*, go_sem]; done) | (simp; done)); done)); (focus ((first | (simp; omega) | omega | (simp [*, go_sem]; done) | (simp; done)); done)); (focus ((first | (simp; omega) | omega | (simp [*, go_sem]; done) | (simp; done)); done)); (focus ((first | (simp; omega) | omega | (simp [*, go_sem]; done) | (simp; done)); done)); rintro e wn ⟨rfl, hbn⟩; obtain ⟨hcn, hfn⟩ := bcell hbn; (try simp only [World.size_drew, World.cell?_drew, World.frozen?_drew, World.heap_drewN, World.cell?_drewN, World.frozen?_drewN] at hcn hfn); have hsz := hbn.size; (try simp at hsz); (try have hsl := Nat.lt_of_succ_le hsz); (try have hz0 : w.heap.size < wn.heap.size := (by have := hbn.size; (try simp at this); omega)); (try have hz1 : w.heap.size + 1 < wn.heap.size := (by have := hbn.size; (try simp at this); omega)); (try have hz2 : w.heap.size + 1 + 1 < wn.heap.size := (by have := hbn.size; (try simp at this); omega))))
  go_ret
  exact ⟨rfl, (by repeat (first | assumption | exact Below.refl _ _ | (refine below_chain ?_ (by assumption) (by first | omega | (simp <;> omega) | simp)) | (refine Below.alloc ?_ (by first | omega | (simp <;> omega) | simp) _) | (apply below_drewN) | (apply below_drew) | (refine Below.setCell ?_ (by first | omega | (simp <;> omega) | simp) _)))⟩
theorem iGaps_yes (a b c d : Int) (w : World) (h : both a b c d = true) :
    Calls Try.prog 110 #[.agg #[.int .i64 a, .int .i64 b], .agg #[.int .i64 c, .int .i64 d]] w fun e w' => e = .returned (.int .i64 (Int.gcd (c - a) (d - b))) ∧ Below w.heap.size w w' := by
  obtain ⟨h1, h2⟩ := both_true h
  have hs := Pt.sv_true (Pt.sv_of h1 h2)
  have cv := fun B w hB a0 a1 a2 a3 => Lib.hid (valid2 a b c d true B w hB a0 a1 a2 a3 h)
  have ct := fun w => Lib.hid (to_any a b c d w h1 h2)
  have cd := fun w => Lib.hid (divisor_any (c - a) (d - b) w (by omega) (by omega) (by omega) (by omega))
  clear h h1 h2 hs
  go_enter Try.func110, Try.ntmps110
  go_wp2_with ((go_at_call 86; (with_reducible refine ((cv _ _ ?_ ?_ ?_ ?_ ?_).out).mono ?_); (focus ((first | (simp; omega) | omega | (simp [*, go_sem]; done) | (simp; done)); done)); (focus ((first | (simp; omega) | omega | (simp [*, go_sem]; done) | (simp; done)); done)); (focus ((first | (simp; omega) | omega | (simp [*, go_sem]; done) | (simp; done)); done)); (focus ((first | (simp; omega) | omega | (simp [*, go_sem]; done) | (simp; done)); done)); (focus ((first | (simp; omega) | omega | (simp [*, go_sem]; done) | (simp; done)); done)); rintro e wv ⟨rfl, hbn⟩; obtain ⟨hcn, hfn⟩ := bcell hbn; (try simp only [World.size_drew, World.cell?_drew, World.frozen?_drew, World.heap_drewN, World.cell?_drewN, World.frozen?_drewN] at hcn hfn); have hsz := hbn.size; (try simp at hsz); (try have hsl := Nat.lt_of_succ_le hsz); (try have hz0 : w.heap.size < wv.heap.size := (by have := hbn.size; (try simp at this); omega)); (try have hz1 : w.heap.size + 1 < wv.heap.size := (by have := hbn.size; (try simp at this); omega)); (try have hz2 : w.heap.size + 1 + 1 < wv.heap.size := (by have := hbn.size; (try simp at this); omega))))
  go_region_held3 (fun W => W.cell? ⟨w.heap.size, 0, none⟩ = some (.int .i64 a) ∧ W.cell? ⟨w.heap.size, 1, none⟩ = some (.int .i64 b) ∧ W.cell? ⟨w.heap.size + 1, 0, none⟩ = some (.int .i64 c) ∧ W.cell? ⟨w.heap.size + 1, 1, none⟩ = some (.int .i64 d)) (((try dsimp only); (try go_split_ands); refine ⟨?_, ?_, ?_, ?_⟩ <;> (first | ((repeat (first | with_reducible assumption | (with_reducible refine cell_below_keep (by with_reducible assumption) ?_) | (simp [go_sem]; done) | (with_reducible refine cell_alloc_keep _ ?_) | (with_reducible refine cell_drew_keep ?_) | (with_reducible refine cell_drewN_keep _ ?_) | (with_reducible refine cell_set_keep _ (by first | (simp; omega) | omega) ?_))); done) | (simp [*, go_sem]; done))))
    (first | (go_at_call 85; (with_reducible refine (placeOf_any a b _).mono ?_); rintro e w1 ⟨rfl, hbn⟩; obtain ⟨hcn, hfn⟩ := bcell hbn; (try simp only [World.size_drew, World.cell?_drew, World.frozen?_drew, World.heap_drewN, World.cell?_drewN, World.frozen?_drewN] at hcn hfn); have hsz := hbn.size; (try simp at hsz); (try have hsl := Nat.lt_of_succ_le hsz); (try have hz0 : w.heap.size < w1.heap.size := (by have := hbn.size; (try simp at this); omega)); (try have hz1 : w.heap.size + 1 < w1.heap.size := (by have := hbn.size; (try simp at this); omega)); (try have hz2 : w.heap.size + 1 + 1 < w1.heap.size := (by have := hbn.size; (try simp at this); omega)); (try have hz3 : wv.heap.size < w1.heap.size := (by have := hbn.size; (try simp at this); omega))) | (go_at_call 85; (with_reducible refine (placeOf_any c d _).mono ?_); rintro e w2 ⟨rfl, hbn⟩; obtain ⟨hcn, hfn⟩ := bcell hbn; (try simp only [World.size_drew, World.cell?_drew, World.frozen?_drew, World.heap_drewN, World.cell?_drewN, World.frozen?_drewN] at hcn hfn); have hsz := hbn.size; (try simp at hsz); (try have hsl := Nat.lt_of_succ_le hsz); (try have hz0 : w.heap.size < w2.heap.size := (by have := hbn.size; (try simp at this); omega)); (try have hz1 : w.heap.size + 1 < w2.heap.size := (by have := hbn.size; (try simp at this); omega)); (try have hz2 : w.heap.size + 1 + 1 < w2.heap.size := (by have := hbn.size; (try simp at this); omega)); (try have hz3 : wv.heap.size < w2.heap.size := (by have := hbn.size; (try simp at this); omega)); (try have hz4 : w1.heap.size < w2.heap.size := (by have := hbn.size; (try simp at this); omega))) | (go_at_call 89; (with_reducible refine ((ct _).out).mono ?_); rintro e wt ⟨rfl, hbn⟩; obtain ⟨hcn, hfn⟩ := bcell hbn; (try simp only [World.size_drew, World.cell?_drew, World.frozen?_drew, World.heap_drewN, World.cell?_drewN, World.frozen?_drewN] at hcn hfn); have hsz := hbn.size; (try simp at hsz); (try have hsl := Nat.lt_of_succ_le hsz); (try have hz0 : w.heap.size < wt.heap.size := (by have := hbn.size; (try simp at this); omega)); (try have hz1 : w.heap.size + 1 < wt.heap.size := (by have := hbn.size; (try simp at this); omega)); (try have hz2 : w.heap.size + 1 + 1 < wt.heap.size := (by have := hbn.size; (try simp at this); omega)); (try have hz3 : wv.heap.size < wt.heap.size := (by have := hbn.size; (try simp at this); omega)); (try have hz4 : w1.heap.size < wt.heap.size := (by have := hbn.size; (try simp at this); omega)); (try have hz5 : w2.heap.size < wt.heap.size := (by have := hbn.size; (try simp at this); omega))))
  all_goals go_wp2_with ((go_at_call 130; (with_reducible refine ((cd _).out).mono ?_); rintro e w' ⟨rfl, k, rfl⟩))
  all_goals go_ret
  all_goals exact ⟨rfl, (by repeat (first | assumption | exact Below.refl _ _ | (refine below_chain ?_ (by assumption) (by first | omega | (simp <;> omega) | simp)) | (refine Below.alloc ?_ (by first | omega | (simp <;> omega) | simp) _) | (apply below_drewN) | (apply below_drew) | (refine Below.setCell ?_ (by first | omega | (simp <;> omega) | simp) _)))⟩

end Go.Proofs.Ytgncjpakclbegaa
namespace Go.Proofs.Ytgncjpakclbegaa
open Go.RowKit
set_option linter.unusedVariables false

theorem in_is (n l h : Int) (b : Bool) (w : World) (hb : decide (l ≤ n ∧ n ≤ h) = b) :
    Calls Try.prog 100 #[.int .i64 n, .int .i64 l, .int .i64 h] w fun e w' => e = .returned (.bool b) ∧ w = w' := by
  subst hb
  by_cases h1 : l ≤ n ∧ n ≤ h
  · simp only [h1, and_self, decide_true]; exact in_yes n l h w h1.1 h1.2
  · have := in_no n l h w (by omega)
    simpa [h1] using this
theorem spv_any (x y : Int) (w : World) :
    Calls Try.prog 87 #[.agg #[.int .i64 x, .int .i64 y]] w fun e w' => e = .returned (.bool (Pt.pv x y)) ∧ Below w.heap.size w w' := by
  have e : Pt.pv x y = (decide (-10000 ≤ x ∧ x ≤ 10000) && decide (-10000 ≤ y ∧ y ≤ 10000)) := by unfold Pt.pv; rw [← Bool.decide_and]; apply decide_eq_decide.2; omega
  rw [e]
  obtain ⟨p, hp⟩ : ∃ p, decide (-10000 ≤ x ∧ x ≤ 10000) = p := ⟨_, rfl⟩
  obtain ⟨q, hq⟩ : ∃ q, decide (-10000 ≤ y ∧ y ≤ 10000) = q := ⟨_, rfl⟩
  rw [hp, hq]
  have c1 := fun w => Lib.hid (in_is x _ _ p w hp)
  have c2 := fun w => Lib.hid (in_is y _ _ q w hq)
  clear e hp hq
  cases p <;> cases q
  all_goals
    go_enter Try.func87, Try.ntmps87
    go_wp2_with (first | (go_at_call 100; (with_reducible refine ((c1 _).out).mono ?_); rintro e w' ⟨rfl, rfl⟩) | (go_at_call 100; (with_reducible refine ((c2 _).out).mono ?_); rintro e w' ⟨rfl, rfl⟩))
    go_ret
    exact ⟨rfl, (by repeat (first | assumption | exact Below.refl _ _ | (refine below_chain ?_ (by assumption) (by first | omega | (simp <;> omega) | simp)) | (refine Below.alloc ?_ (by first | omega | (simp <;> omega) | simp) _) | (apply below_drewN) | (apply below_drew) | (refine Below.setCell ?_ (by first | omega | (simp <;> omega) | simp) _)))⟩
theorem sstep_any (x y : Int) (w : World) :
    Calls Try.prog 99 #[.agg #[.int .i64 x, .int .i64 y]] w fun e w' => e = .returned (.bool (Pt.sv x y)) ∧ Below w.heap.size w w' := by
  have e : Pt.sv x y = (decide (-20000 ≤ x ∧ x ≤ 20000) && decide (-20000 ≤ y ∧ y ≤ 20000)) := by unfold Pt.sv; rw [← Bool.decide_and]; apply decide_eq_decide.2; omega
  rw [e]
  obtain ⟨p, hp⟩ : ∃ p, decide (-20000 ≤ x ∧ x ≤ 20000) = p := ⟨_, rfl⟩
  obtain ⟨q, hq⟩ : ∃ q, decide (-20000 ≤ y ∧ y ≤ 20000) = q := ⟨_, rfl⟩
  rw [hp, hq]
  have c1 := fun w => Lib.hid (in_is x _ _ p w hp)
  have c2 := fun w => Lib.hid (in_is y _ _ q w hq)
  clear e hp hq
  cases p <;> cases q
  all_goals
    go_enter Try.func99, Try.ntmps99
    go_wp2_with (first | (go_at_call 100; (with_reducible refine ((c1 _).out).mono ?_); rintro e w' ⟨rfl, rfl⟩) | (go_at_call 100; (with_reducible refine ((c2 _).out).mono ?_); rintro e w' ⟨rfl, rfl⟩))
    go_ret
    exact ⟨rfl, (by repeat (first | assumption | exact Below.refl _ _ | (refine below_chain ?_ (by assumption) (by first | omega | (simp <;> omega) | simp)) | (refine Below.alloc ?_ (by first | omega | (simp <;> omega) | simp) _) | (apply below_drewN) | (apply below_drew) | (refine Below.setCell ?_ (by first | omega | (simp <;> omega) | simp) _)))⟩
theorem spv_is (x y : Int) (b : Bool) (w : World) (h : Pt.pv x y = b) :
    Calls Try.prog 87 #[.agg #[.int .i64 x, .int .i64 y]] w fun e w' => e = .returned (.bool b) ∧ Below w.heap.size w w' := by
  rw [← h]; exact spv_any x y w
theorem sstep_is (x y : Int) (b : Bool) (w : World) (h : Pt.sv x y = b) :
    Calls Try.prog 99 #[.agg #[.int .i64 x, .int .i64 y]] w fun e w' => e = .returned (.bool b) ∧ Below w.heap.size w w' := by
  rw [← h]; exact sstep_any x y w

theorem l2Step_any (a b c d : Int) (w : World) (h1 : Pt.pv a b = true) (h2 : Pt.pv c d = true) :
    Calls Try.prog 106 #[.agg #[.int .i64 a, .int .i64 b], .agg #[.int .i64 c, .int .i64 d]] w fun e w' => e = .returned (.agg #[.int .i64 (c - a), .int .i64 (d - b)]) ∧ Below w.heap.size w w' := by
  obtain ⟨p1, p2, p3, p4⟩ := Pt.pv_true h1
  obtain ⟨q1, q2, q3, q4⟩ := Pt.pv_true h2
  clear h1 h2
  go_enter Try.func106, Try.ntmps106
  go_wp2
  exact bodyPost_ret (v := .agg #[.int .i64 (c - a), .int .i64 (d - b)]) (by simp [results, Try.results106, go_sem]) rfl ⟨rfl, (by repeat (first | assumption | exact Below.refl _ _ | (refine below_chain ?_ (by assumption) (by first | omega | (simp <;> omega) | simp)) | (refine Below.alloc ?_ (by first | omega | (simp <;> omega) | simp) _) | (apply below_drewN) | (apply below_drew) | (refine Below.setCell ?_ (by first | omega | (simp <;> omega) | simp) _)))⟩
theorem l2Cross_any (a b c d : Int) (w : World) (h1 : Pt.sv a b = true) (h2 : Pt.sv c d = true) :
    Calls Try.prog 105 #[.agg #[.int .i64 a, .int .i64 b], .agg #[.int .i64 c, .int .i64 d]] w fun e w' => e = .returned (.int .i64 (Pt.cr a b c d)) ∧ Below w.heap.size w w' := by
  obtain ⟨p1, p2, p3, p4⟩ := Pt.sv_true h1
  obtain ⟨q1, q2, q3, q4⟩ := Pt.sv_true h2
  clear h1 h2
  obtain ⟨r1, r2⟩ := Pt.mul_bd p1 p2 q3 q4
  obtain ⟨s1, s2⟩ := Pt.mul_bd p3 p4 q1 q2
  unfold Pt.cr
  go_enter Try.func105, Try.ntmps105
  go_wp2
  go_ret
  exact ⟨rfl, (by repeat (first | assumption | exact Below.refl _ _ | (refine below_chain ?_ (by assumption) (by first | omega | (simp <;> omega) | simp)) | (refine Below.alloc ?_ (by first | omega | (simp <;> omega) | simp) _) | (apply below_drewN) | (apply below_drew) | (refine Below.setCell ?_ (by first | omega | (simp <;> omega) | simp) _)))⟩
theorem psign_any (n : Int) (w : World) :
    Calls Try.prog 78 #[.int .i64 n] w fun e w' => e = .returned (.int .i64 (if n < 0 then -1 else if 0 < n then 1 else 0)) ∧ w = w' := by
  go_enter Try.func78, Try.ntmps78
  go_wp2
  all_goals go_ret
  all_goals exact ⟨ret_int (by omega), rfl⟩
theorem sign_is (n s : Int) (w : World) (h : (if n < 0 then -1 else if 0 < n then 1 else 0) = s) :
    Calls Try.prog 78 #[.int .i64 n] w fun e w' => e = .returned (.int .i64 s) ∧ w = w' := by
  rw [← h]; exact psign_any n w

def both' (a b c d : Int) : Bool := Pt.pv a b && Pt.pv c d
theorem sStep_is (a b c d : Int) (p q : Bool) (w : World) (hp : Pt.pv a b = p) (hq : Pt.pv c d = q) :
    Calls Try.prog 128 #[.agg #[.int .i64 a, .int .i64 b], .agg #[.int .i64 c, .int .i64 d]] w fun e w' => e = .returned (.tuple #[.agg #[.int .i64 (if p && q then c - a else 0), .int .i64 (if p && q then d - b else 0)], .bool (p && q)]) ∧ Below w.heap.size w w' := by
  have c1 := fun w => Lib.hid (spv_is a b p w hp)
  have c2 := fun w => Lib.hid (spv_is c d q w hq)
  by_cases hh : p = true ∧ q = true
  · obtain ⟨rfl, rfl⟩ := hh
    have ct := fun w => Lib.hid (l2Step_any a b c d w hp hq)
    clear hp hq
    go_enter Try.func128, Try.ntmps128
    go_wp2_with (first | (go_at_call 87; (with_reducible refine ((c1 _).out).mono ?_); rintro e wn ⟨rfl, hbn⟩; obtain ⟨hcn, hfn⟩ := bcell hbn; (try simp only [World.size_drew, World.cell?_drew, World.frozen?_drew, World.heap_drewN, World.cell?_drewN, World.frozen?_drewN] at hcn hfn); have hsz := hbn.size; (try simp at hsz); (try have hsl := Nat.lt_of_succ_le hsz); (try have hz0 : w.heap.size < wn.heap.size := (by have := hbn.size; (try simp at this); omega)); (try have hz1 : w.heap.size + 1 < wn.heap.size := (by have := hbn.size; (try simp at this); omega)); (try have hz2 : w.heap.size + 1 + 1 < wn.heap.size := (by have := hbn.size; (try simp at this); omega))) | (go_at_call 87; (with_reducible refine ((c2 _).out).mono ?_); rintro e wm ⟨rfl, hbn⟩; obtain ⟨hcn, hfn⟩ := bcell hbn; (try simp only [World.size_drew, World.cell?_drew, World.frozen?_drew, World.heap_drewN, World.cell?_drewN, World.frozen?_drewN] at hcn hfn); have hsz := hbn.size; (try simp at hsz); (try have hsl := Nat.lt_of_succ_le hsz); (try have hz0 : w.heap.size < wm.heap.size := (by have := hbn.size; (try simp at this); omega)); (try have hz1 : w.heap.size + 1 < wm.heap.size := (by have := hbn.size; (try simp at this); omega)); (try have hz2 : w.heap.size + 1 + 1 < wm.heap.size := (by have := hbn.size; (try simp at this); omega))) | (go_at_call 106; (with_reducible refine ((ct _).out).mono ?_); rintro e wt ⟨rfl, hbn⟩; obtain ⟨hcn, hfn⟩ := bcell hbn; (try simp only [World.size_drew, World.cell?_drew, World.frozen?_drew, World.heap_drewN, World.cell?_drewN, World.frozen?_drewN] at hcn hfn); have hsz := hbn.size; (try simp at hsz); (try have hsl := Nat.lt_of_succ_le hsz); (try have hz0 : w.heap.size < wt.heap.size := (by have := hbn.size; (try simp at this); omega)); (try have hz1 : w.heap.size + 1 < wt.heap.size := (by have := hbn.size; (try simp at this); omega)); (try have hz2 : w.heap.size + 1 + 1 < wt.heap.size := (by have := hbn.size; (try simp at this); omega))))
    exact bodyPost_ret (v := .tuple #[.agg #[.int .i64 (c - a), .int .i64 (d - b)], .bool true]) (by simp [results, Try.results128, go_sem, *]) rfl ⟨rfl, (by repeat (first | assumption | exact Below.refl _ _ | (refine below_chain ?_ (by assumption) (by first | omega | (simp <;> omega) | simp)) | (refine Below.alloc ?_ (by first | omega | (simp <;> omega) | simp) _) | (apply below_drewN) | (apply below_drew) | (refine Below.setCell ?_ (by first | omega | (simp <;> omega) | simp) _)))⟩
  · clear hp hq
    cases p <;> cases q
    case true.true => exact absurd ⟨rfl, rfl⟩ hh
    all_goals
      clear hh
      go_enter Try.func128, Try.ntmps128
      go_wp2_with (first | (go_at_call 87; (with_reducible refine ((c1 _).out).mono ?_); rintro e wn ⟨rfl, hbn⟩; obtain ⟨hcn, hfn⟩ := bcell hbn; (try simp only [World.size_drew, World.cell?_drew, World.frozen?_drew, World.heap_drewN, World.cell?_drewN, World.frozen?_drewN] at hcn hfn); have hsz := hbn.size; (try simp at hsz); (try have hsl := Nat.lt_of_succ_le hsz); (try have hz0 : w.heap.size < wn.heap.size := (by have := hbn.size; (try simp at this); omega)); (try have hz1 : w.heap.size + 1 < wn.heap.size := (by have := hbn.size; (try simp at this); omega)); (try have hz2 : w.heap.size + 1 + 1 < wn.heap.size := (by have := hbn.size; (try simp at this); omega))) | (go_at_call 87; (with_reducible refine ((c2 _).out).mono ?_); rintro e wm ⟨rfl, hbn⟩; obtain ⟨hcn, hfn⟩ := bcell hbn; (try simp only [World.size_drew, World.cell?_drew, World.frozen?_drew, World.heap_drewN, World.cell?_drewN, World.frozen?_drewN] at hcn hfn); have hsz := hbn.size; (try simp at hsz); (try have hsl := Nat.lt_of_succ_le hsz); (try have hz0 : w.heap.size < wm.heap.size := (by have := hbn.size; (try simp at this); omega)); (try have hz1 : w.heap.size + 1 < wm.heap.size := (by have := hbn.size; (try simp at this); omega)); (try have hz2 : w.heap.size + 1 + 1 < wm.heap.size := (by have := hbn.size; (try simp at this); omega))))
      exact bodyPost_ret (v := .tuple #[.agg #[.int .i64 0, .int .i64 0], .bool false]) (by simp [results, Try.results128, go_sem, *]) rfl ⟨rfl, (by repeat (first | assumption | exact Below.refl _ _ | (refine below_chain ?_ (by assumption) (by first | omega | (simp <;> omega) | simp)) | (refine Below.alloc ?_ (by first | omega | (simp <;> omega) | simp) _) | (apply below_drewN) | (apply below_drew) | (refine Below.setCell ?_ (by first | omega | (simp <;> omega) | simp) _)))⟩
theorem sGaps_no (a b c d : Int) (p q : Bool) (w : World) (hp : Pt.pv a b = p) (hq : Pt.pv c d = q) (h : (p && q) = false) :
    Calls Try.prog 109 #[.agg #[.int .i64 a, .int .i64 b], .agg #[.int .i64 c, .int .i64 d]] w fun e w' => e = .returned (.int .i64 (-1)) ∧ Below w.heap.size w w' := by
  have c1 := fun w => Lib.hid (sStep_is a b c d p q w hp hq)
  rw [h] at c1
  clear hp hq h
  go_enter Try.func109, Try.ntmps109
  go_wp2_with ((go_at_call 128; (with_reducible refine ((c1 _).out).mono ?_); rintro e wn ⟨rfl, hbn⟩; obtain ⟨hcn, hfn⟩ := bcell hbn; (try simp only [World.size_drew, World.cell?_drew, World.frozen?_drew, World.heap_drewN, World.cell?_drewN, World.frozen?_drewN] at hcn hfn); have hsz := hbn.size; (try simp at hsz); (try have hsl := Nat.lt_of_succ_le hsz); (try have hz0 : w.heap.size < wn.heap.size := (by have := hbn.size; (try simp at this); omega)); (try have hz1 : w.heap.size + 1 < wn.heap.size := (by have := hbn.size; (try simp at this); omega)); (try have hz2 : w.heap.size + 1 + 1 < wn.heap.size := (by have := hbn.size; (try simp at this); omega))))
  go_ret
  exact ⟨rfl, (by repeat (first | assumption | exact Below.refl _ _ | (refine below_chain ?_ (by assumption) (by first | omega | (simp <;> omega) | simp)) | (refine Below.alloc ?_ (by first | omega | (simp <;> omega) | simp) _) | (apply below_drewN) | (apply below_drew) | (refine Below.setCell ?_ (by first | omega | (simp <;> omega) | simp) _)))⟩
set_option maxRecDepth 100000 in
theorem sGaps_yes (a b c d : Int) (w : World) (hp : Pt.pv a b = true) (hq : Pt.pv c d = true) :
    Calls Try.prog 109 #[.agg #[.int .i64 a, .int .i64 b], .agg #[.int .i64 c, .int .i64 d]] w fun e w' => e = .returned (.int .i64 (Int.gcd (c - a) (d - b))) ∧ Below w.heap.size w w' := by
  have c1 := fun w => Lib.hid (sStep_is a b c d true true w hp hq)
  obtain ⟨p1, p2, p3, p4⟩ := Pt.sv_true (Pt.sv_of hp hq)
  have e : ((c - a).natAbs : Int).gcd ((d - b).natAbs : Int) = Int.gcd (c - a) (d - b) := by simp [Int.gcd]
  rw [← e]
  have c2 := fun w => Lib.hid (size_any (c - a) w (by omega) (by omega))
  have c3 := fun w => Lib.hid (size_any (d - b) w (by omega) (by omega))
  have c4 := fun w => Lib.hid (common_any ((c - a).natAbs : Int) ((d - b).natAbs : Int) w (by omega) (by omega) (by omega) (by omega))
  clear hp hq e p1 p2 p3 p4
  go_enter Try.func109, Try.ntmps109
  go_wp2_with ((go_at_call 128; (with_reducible refine ((c1 _).out).mono ?_); rintro e wn ⟨rfl, hbn⟩; obtain ⟨hcn, hfn⟩ := bcell hbn; (try simp only [World.size_drew, World.cell?_drew, World.frozen?_drew, World.heap_drewN, World.cell?_drewN, World.frozen?_drewN] at hcn hfn); have hsz := hbn.size; (try simp at hsz); (try have hsl := Nat.lt_of_succ_le hsz); (try have hz0 : w.heap.size < wn.heap.size := (by have := hbn.size; (try simp at this); omega)); (try have hz1 : w.heap.size + 1 < wn.heap.size := (by have := hbn.size; (try simp at this); omega)); (try have hz2 : w.heap.size + 1 + 1 < wn.heap.size := (by have := hbn.size; (try simp at this); omega))))
  go_quiet (first | (go_at_call 71; exact Calls.quiet_of_same ((c2 _).out.mono fun _ _ ⟨he, hw⟩ => ⟨he, hw.symm⟩)) | (go_at_call 71; exact Calls.quiet_of_same ((c3 _).out.mono fun _ _ ⟨he, hw⟩ => ⟨he, hw.symm⟩)) | (go_at_call 129; exact Calls.quiet_of_same ((c4 _).out.mono fun _ _ ⟨he, hw⟩ => ⟨he, hw.symm⟩)))
  go_wp2
  go_ret
  exact ⟨rfl, (by repeat (first | assumption | exact Below.refl _ _ | (refine below_chain ?_ (by assumption) (by first | omega | (simp <;> omega) | simp)) | (refine Below.alloc ?_ (by first | omega | (simp <;> omega) | simp) _) | (apply below_drewN) | (apply below_drew) | (refine Below.setCell ?_ (by first | omega | (simp <;> omega) | simp) _)))⟩
theorem sMove_no (a b c d : Int) (p q : Bool) (w : World) (hp : Pt.pv a b = p) (hq : Pt.sv c d = q) (h : (p && q) = false) :
    Calls Try.prog 88 #[.agg #[.int .i64 a, .int .i64 b], .agg #[.int .i64 c, .int .i64 d]] w fun e w' => e = .returned (.tuple #[.agg #[.int .i64 0, .int .i64 0], .bool false]) ∧ Below w.heap.size w w' := by
  have c1 := fun w => Lib.hid (spv_is a b p w hp)
  have c2 := fun w => Lib.hid (sstep_is c d q w hq)
  clear hp hq
  cases p <;> cases q
  case true.true => cases h
  all_goals
    go_enter Try.func88, Try.ntmps88
    go_wp2_with (first | (go_at_call 87; (with_reducible refine ((c1 _).out).mono ?_); rintro e wn ⟨rfl, hbn⟩; obtain ⟨hcn, hfn⟩ := bcell hbn; (try simp only [World.size_drew, World.cell?_drew, World.frozen?_drew, World.heap_drewN, World.cell?_drewN, World.frozen?_drewN] at hcn hfn); have hsz := hbn.size; (try simp at hsz); (try have hsl := Nat.lt_of_succ_le hsz); (try have hz0 : w.heap.size < wn.heap.size := (by have := hbn.size; (try simp at this); omega)); (try have hz1 : w.heap.size + 1 < wn.heap.size := (by have := hbn.size; (try simp at this); omega)); (try have hz2 : w.heap.size + 1 + 1 < wn.heap.size := (by have := hbn.size; (try simp at this); omega))) | (go_at_call 99; (with_reducible refine ((c2 _).out).mono ?_); rintro e wm ⟨rfl, hbn⟩; obtain ⟨hcn, hfn⟩ := bcell hbn; (try simp only [World.size_drew, World.cell?_drew, World.frozen?_drew, World.heap_drewN, World.cell?_drewN, World.frozen?_drewN] at hcn hfn); have hsz := hbn.size; (try simp at hsz); (try have hsl := Nat.lt_of_succ_le hsz); (try have hz0 : w.heap.size < wm.heap.size := (by have := hbn.size; (try simp at this); omega)); (try have hz1 : w.heap.size + 1 < wm.heap.size := (by have := hbn.size; (try simp at this); omega)); (try have hz2 : w.heap.size + 1 + 1 < wm.heap.size := (by have := hbn.size; (try simp at this); omega))))
    exact bodyPost_ret (v := .tuple #[.agg #[.int .i64 0, .int .i64 0], .bool false]) (by simp [results, Try.results88, go_sem, *]) rfl ⟨rfl, (by repeat (first | assumption | exact Below.refl _ _ | (refine below_chain ?_ (by assumption) (by first | omega | (simp <;> omega) | simp)) | (refine Below.alloc ?_ (by first | omega | (simp <;> omega) | simp) _) | (apply below_drewN) | (apply below_drew) | (refine Below.setCell ?_ (by first | omega | (simp <;> omega) | simp) _)))⟩
theorem sMove_is (a b c d : Int) (q : Bool) (w : World) (h1 : Pt.pv a b = true) (h2 : Pt.sv c d = true) (hq : Pt.pv (a + c) (b + d) = q) :
    Calls Try.prog 88 #[.agg #[.int .i64 a, .int .i64 b], .agg #[.int .i64 c, .int .i64 d]] w fun e w' => e = .returned (.tuple #[.agg #[.int .i64 (if q then a + c else 0), .int .i64 (if q then b + d else 0)], .bool q]) ∧ Below w.heap.size w w' := by
  have c1 := fun w => Lib.hid (spv_is a b true w h1)
  have c2 := fun w => Lib.hid (sstep_is c d true w h2)
  have c3 := fun w => Lib.hid (spv_is (a + c) (b + d) q w hq)
  obtain ⟨p1, p2, p3, p4⟩ := Pt.pv_true h1
  obtain ⟨q1, q2, q3, q4⟩ := Pt.sv_true h2
  clear h1 h2 hq
  cases q
  all_goals
    go_enter Try.func88, Try.ntmps88
    go_wp2_with (first | (go_at_call 87; (with_reducible refine ((c1 _).out).mono ?_); rintro e wn ⟨rfl, hbn⟩; obtain ⟨hcn, hfn⟩ := bcell hbn; (try simp only [World.size_drew, World.cell?_drew, World.frozen?_drew, World.heap_drewN, World.cell?_drewN, World.frozen?_drewN] at hcn hfn); have hsz := hbn.size; (try simp at hsz); (try have hsl := Nat.lt_of_succ_le hsz); (try have hz0 : w.heap.size < wn.heap.size := (by have := hbn.size; (try simp at this); omega)); (try have hz1 : w.heap.size + 1 < wn.heap.size := (by have := hbn.size; (try simp at this); omega)); (try have hz2 : w.heap.size + 1 + 1 < wn.heap.size := (by have := hbn.size; (try simp at this); omega))) | (go_at_call 99; (with_reducible refine ((c2 _).out).mono ?_); rintro e wm ⟨rfl, hbn⟩; obtain ⟨hcn, hfn⟩ := bcell hbn; (try simp only [World.size_drew, World.cell?_drew, World.frozen?_drew, World.heap_drewN, World.cell?_drewN, World.frozen?_drewN] at hcn hfn); have hsz := hbn.size; (try simp at hsz); (try have hsl := Nat.lt_of_succ_le hsz); (try have hz0 : w.heap.size < wm.heap.size := (by have := hbn.size; (try simp at this); omega)); (try have hz1 : w.heap.size + 1 < wm.heap.size := (by have := hbn.size; (try simp at this); omega)); (try have hz2 : w.heap.size + 1 + 1 < wm.heap.size := (by have := hbn.size; (try simp at this); omega))) | (go_at_call 87; (with_reducible refine ((c3 _).out).mono ?_); rintro e wu ⟨rfl, hbn⟩; obtain ⟨hcn, hfn⟩ := bcell hbn; (try simp only [World.size_drew, World.cell?_drew, World.frozen?_drew, World.heap_drewN, World.cell?_drewN, World.frozen?_drewN] at hcn hfn); have hsz := hbn.size; (try simp at hsz); (try have hsl := Nat.lt_of_succ_le hsz); (try have hz0 : w.heap.size < wu.heap.size := (by have := hbn.size; (try simp at this); omega)); (try have hz1 : w.heap.size + 1 < wu.heap.size := (by have := hbn.size; (try simp at this); omega)); (try have hz2 : w.heap.size + 1 + 1 < wu.heap.size := (by have := hbn.size; (try simp at this); omega)); (try have hz3 : wm.heap.size < wu.heap.size := (by have := hbn.size; (try simp at this); omega))))
  all_goals first | exact bodyPost_ret (v := .tuple #[.agg #[.int .i64 0, .int .i64 0], .bool false]) (by simp [results, Try.results88, go_sem, *]) rfl ⟨rfl, (by repeat (first | assumption | exact Below.refl _ _ | (refine below_chain ?_ (by assumption) (by first | omega | (simp <;> omega) | simp)) | (refine Below.alloc ?_ (by first | omega | (simp <;> omega) | simp) _) | (apply below_drewN) | (apply below_drew) | (refine Below.setCell ?_ (by first | omega | (simp <;> omega) | simp) _)))⟩ | exact bodyPost_ret (v := .tuple #[.agg #[.int .i64 (a + c), .int .i64 (b + d)], .bool true]) (by simp [results, Try.results88, go_sem, *]) rfl ⟨rfl, (by repeat (first | assumption | exact Below.refl _ _ | (refine below_chain ?_ (by assumption) (by first | omega | (simp <;> omega) | simp)) | (refine Below.alloc ?_ (by first | omega | (simp <;> omega) | simp) _) | (apply below_drewN) | (apply below_drew) | (refine Below.setCell ?_ (by first | omega | (simp <;> omega) | simp) _)))⟩
end Go.Proofs.Ytgncjpakclbegaa
namespace Go.Proofs.Ytgncjpakclbegaa
open Go.RowKit
set_option linter.unusedVariables false

set_option maxHeartbeats 4000000 in
theorem sOn_off (a b c d u v : Int) (w : World) (h1 : Pt.pv a b = true) (h2 : Pt.pv c d = true) (h3 : Pt.pv u v = true) (hc : ¬ Pt.cr (c - a) (d - b) (u - a) (v - b) = 0) :
    Calls Try.prog 63 #[.agg #[.int .i64 a, .int .i64 b], .agg #[.int .i64 c, .int .i64 d], .agg #[.int .i64 u, .int .i64 v]] w fun e w' => e = .returned (.bool false) ∧ Below w.heap.size w w' := by
  have ct := fun w => Lib.hid (l2Step_any a b c d w h1 h2)
  have cu := fun w => Lib.hid (l2Step_any a b u v w h1 h3)
  have cc := fun w => Lib.hid (l2Cross_any (c - a) (d - b) (u - a) (v - b) w (Pt.sv_of h1 h2) (Pt.sv_of h1 h3))
  have hc' : (Pt.cr (c - a) (d - b) (u - a) (v - b) == 0) = false := by simpa using hc
  have hc2 : (Pt.cr (c - a) (d - b) (u - a) (v - b) != 0) = true := by simpa using hc
  clear h1 h2 h3 hc
  go_enter Try.func63, Try.ntmps63
  go_wp2_with fail
  go_region_held3 (fun W => W.cell? ⟨w.heap.size, 0, none⟩ = some (.int .i64 a) ∧ W.cell? ⟨w.heap.size, 1, none⟩ = some (.int .i64 b) ∧ W.cell? ⟨w.heap.size + 1, 0, none⟩ = some (.int .i64 c) ∧ W.cell? ⟨w.heap.size + 1, 1, none⟩ = some (.int .i64 d) ∧ W.cell? ⟨w.heap.size + 1 + 1, 0, none⟩ = some (.int .i64 u) ∧ W.cell? ⟨w.heap.size + 1 + 1, 1, none⟩ = some (.int .i64 v)) (((try dsimp only); (try go_split_ands); refine ⟨?_, ?_, ?_, ?_, ?_, ?_⟩ <;> (first | ((repeat (first | with_reducible assumption | (with_reducible refine cell_below_keep (by with_reducible assumption) ?_) | (simp [go_sem]; done) | (with_reducible refine cell_alloc_keep _ ?_) | (with_reducible refine cell_drew_keep ?_) | (with_reducible refine cell_drewN_keep _ ?_) | (with_reducible refine cell_set_keep _ (by first | (simp; omega) | omega) ?_))); done) | (simp [*, go_sem]; done))))
    (first | (go_at_call 106; (with_reducible refine ((ct _).out).mono ?_); rintro e w1 ⟨rfl, hbn⟩; obtain ⟨hcn, hfn⟩ := bcell hbn; (try simp only [World.size_drew, World.cell?_drew, World.frozen?_drew, World.heap_drewN, World.cell?_drewN, World.frozen?_drewN] at hcn hfn); have hsz := hbn.size; (try simp at hsz); (try have hsl := Nat.lt_of_succ_le hsz); (try have hz0 : w.heap.size < w1.heap.size := (by have := hbn.size; (try simp at this); omega)); (try have hz1 : w.heap.size + 1 < w1.heap.size := (by have := hbn.size; (try simp at this); omega)); (try have hz2 : w.heap.size + 1 + 1 < w1.heap.size := (by have := hbn.size; (try simp at this); omega)); (try have hz3 : w.heap.size + 1 + 1 + 1 < w1.heap.size := (by have := hbn.size; (try simp at this); omega))) | (go_at_call 106; (with_reducible refine ((cu _).out).mono ?_); rintro e w2 ⟨rfl, hbn⟩; obtain ⟨hcn, hfn⟩ := bcell hbn; (try simp only [World.size_drew, World.cell?_drew, World.frozen?_drew, World.heap_drewN, World.cell?_drewN, World.frozen?_drewN] at hcn hfn); have hsz := hbn.size; (try simp at hsz); (try have hsl := Nat.lt_of_succ_le hsz); (try have hz0 : w.heap.size < w2.heap.size := (by have := hbn.size; (try simp at this); omega)); (try have hz1 : w.heap.size + 1 < w2.heap.size := (by have := hbn.size; (try simp at this); omega)); (try have hz2 : w.heap.size + 1 + 1 < w2.heap.size := (by have := hbn.size; (try simp at this); omega)); (try have hz3 : w.heap.size + 1 + 1 + 1 < w2.heap.size := (by have := hbn.size; (try simp at this); omega))) | (go_at_call 105; (with_reducible refine ((cc _).out).mono ?_); rintro e w3 ⟨rfl, hbn⟩; obtain ⟨hcn, hfn⟩ := bcell hbn; (try simp only [World.size_drew, World.cell?_drew, World.frozen?_drew, World.heap_drewN, World.cell?_drewN, World.frozen?_drewN] at hcn hfn); have hsz := hbn.size; (try simp at hsz); (try have hsl := Nat.lt_of_succ_le hsz); (try have hz0 : w.heap.size < w3.heap.size := (by have := hbn.size; (try simp at this); omega)); (try have hz1 : w.heap.size + 1 < w3.heap.size := (by have := hbn.size; (try simp at this); omega)); (try have hz2 : w.heap.size + 1 + 1 < w3.heap.size := (by have := hbn.size; (try simp at this); omega)); (try have hz3 : w.heap.size + 1 + 1 + 1 < w3.heap.size := (by have := hbn.size; (try simp at this); omega))))
  all_goals go_wp2_with fail
  all_goals go_ret
  all_goals exact ⟨rfl, (by repeat (first | assumption | exact Below.refl _ _ | (refine below_chain ?_ (by assumption) (by first | omega | (simp <;> omega) | simp)) | (refine Below.alloc ?_ (by first | omega | (simp <;> omega) | simp) _) | (apply below_drewN) | (apply below_drew) | (refine Below.setCell ?_ (by first | omega | (simp <;> omega) | simp) _)))⟩
set_option maxHeartbeats 8000000 in
theorem sOn_on (a b c d u v : Int) (q : Bool) (w : World) (h1 : Pt.pv a b = true) (h2 : Pt.pv c d = true) (h3 : Pt.pv u v = true) (hc : Pt.cr (c - a) (d - b) (u - a) (v - b) = 0) (hq : Pt.onB a b c d u v = q) :
    Calls Try.prog 63 #[.agg #[.int .i64 a, .int .i64 b], .agg #[.int .i64 c, .int .i64 d], .agg #[.int .i64 u, .int .i64 v]] w fun e w' => e = .returned (.bool q) ∧ Below w.heap.size w w' := by
  have ct := fun w => Lib.hid (l2Step_any a b c d w h1 h2)
  have cu := fun w => Lib.hid (l2Step_any a b u v w h1 h3)
  have cc := fun w => Lib.hid (l2Cross_any (c - a) (d - b) (u - a) (v - b) w (Pt.sv_of h1 h2) (Pt.sv_of h1 h3))
  rw [hc] at cc
  have e : Pt.onB a b c d u v = (decide (min a c ≤ u ∧ u ≤ max a c) && decide (min b d ≤ v ∧ v ≤ max b d)) := by unfold Pt.onB; rw [← Bool.decide_and]; apply decide_eq_decide.2; constructor <;> (intro h; omega)
  rw [e] at hq
  obtain ⟨x, hx⟩ : ∃ x, decide (min a c ≤ u ∧ u ≤ max a c) = x := ⟨_, rfl⟩
  obtain ⟨y, hy⟩ : ∃ y, decide (min b d ≤ v ∧ v ≤ max b d) = y := ⟨_, rfl⟩
  rw [hx, hy] at hq
  subst hq
  have hx' := Lib.hid hx
  have hy' := Lib.hid hy
  obtain ⟨q1, q2, q3, q4⟩ := Pt.pv_true h1
  obtain ⟨q5, q6, q7, q8⟩ := Pt.pv_true h2
  clear h1 h2 h3 hc e hx hy
  cases x <;> cases y
  all_goals
    go_enter Try.func63, Try.ntmps63
    go_wp2_with fail
    go_region_held3 (fun W => W.cell? ⟨w.heap.size, 0, none⟩ = some (.int .i64 a) ∧ W.cell? ⟨w.heap.size, 1, none⟩ = some (.int .i64 b) ∧ W.cell? ⟨w.heap.size + 1, 0, none⟩ = some (.int .i64 c) ∧ W.cell? ⟨w.heap.size + 1, 1, none⟩ = some (.int .i64 d) ∧ W.cell? ⟨w.heap.size + 1 + 1, 0, none⟩ = some (.int .i64 u) ∧ W.cell? ⟨w.heap.size + 1 + 1, 1, none⟩ = some (.int .i64 v)) (((try dsimp only); (try go_split_ands); refine ⟨?_, ?_, ?_, ?_, ?_, ?_⟩ <;> (first | ((repeat (first | with_reducible assumption | (with_reducible refine cell_below_keep (by with_reducible assumption) ?_) | (simp [go_sem]; done) | (with_reducible refine cell_alloc_keep _ ?_) | (with_reducible refine cell_drew_keep ?_) | (with_reducible refine cell_drewN_keep _ ?_) | (with_reducible refine cell_set_keep _ (by first | (simp; omega) | omega) ?_))); done) | (simp [*, go_sem]; done))))
      (first | (go_at_call 106; (with_reducible refine ((ct _).out).mono ?_); rintro e w1 ⟨rfl, hbn⟩; obtain ⟨hcn, hfn⟩ := bcell hbn; (try simp only [World.size_drew, World.cell?_drew, World.frozen?_drew, World.heap_drewN, World.cell?_drewN, World.frozen?_drewN] at hcn hfn); have hsz := hbn.size; (try simp at hsz); (try have hsl := Nat.lt_of_succ_le hsz); (try have hz0 : w.heap.size < w1.heap.size := (by have := hbn.size; (try simp at this); omega)); (try have hz1 : w.heap.size + 1 < w1.heap.size := (by have := hbn.size; (try simp at this); omega)); (try have hz2 : w.heap.size + 1 + 1 < w1.heap.size := (by have := hbn.size; (try simp at this); omega)); (try have hz3 : w.heap.size + 1 + 1 + 1 < w1.heap.size := (by have := hbn.size; (try simp at this); omega))) | (go_at_call 106; (with_reducible refine ((cu _).out).mono ?_); rintro e w2 ⟨rfl, hbn⟩; obtain ⟨hcn, hfn⟩ := bcell hbn; (try simp only [World.size_drew, World.cell?_drew, World.frozen?_drew, World.heap_drewN, World.cell?_drewN, World.frozen?_drewN] at hcn hfn); have hsz := hbn.size; (try simp at hsz); (try have hsl := Nat.lt_of_succ_le hsz); (try have hz0 : w.heap.size < w2.heap.size := (by have := hbn.size; (try simp at this); omega)); (try have hz1 : w.heap.size + 1 < w2.heap.size := (by have := hbn.size; (try simp at this); omega)); (try have hz2 : w.heap.size + 1 + 1 < w2.heap.size := (by have := hbn.size; (try simp at this); omega)); (try have hz3 : w.heap.size + 1 + 1 + 1 < w2.heap.size := (by have := hbn.size; (try simp at this); omega))) | (go_at_call 105; (with_reducible refine ((cc _).out).mono ?_); rintro e w3 ⟨rfl, hbn⟩; obtain ⟨hcn, hfn⟩ := bcell hbn; (try simp only [World.size_drew, World.cell?_drew, World.frozen?_drew, World.heap_drewN, World.cell?_drewN, World.frozen?_drewN] at hcn hfn); have hsz := hbn.size; (try simp at hsz); (try have hsl := Nat.lt_of_succ_le hsz); (try have hz0 : w.heap.size < w3.heap.size := (by have := hbn.size; (try simp at this); omega)); (try have hz1 : w.heap.size + 1 < w3.heap.size := (by have := hbn.size; (try simp at this); omega)); (try have hz2 : w.heap.size + 1 + 1 < w3.heap.size := (by have := hbn.size; (try simp at this); omega)); (try have hz3 : w.heap.size + 1 + 1 + 1 < w3.heap.size := (by have := hbn.size; (try simp at this); omega))))
    all_goals go_wp2_with (first | (go_at_call 100; (with_reducible refine (in_is u _ _ _ _ (Eq.trans ?_ hx'.out)).mono ?_); (focus ((apply decide_eq_decide.2; omega); done)); rintro e w' ⟨rfl, rfl⟩) | (go_at_call 100; (with_reducible refine (in_is v _ _ _ _ (Eq.trans ?_ hy'.out)).mono ?_); (focus ((apply decide_eq_decide.2; omega); done)); rintro e w' ⟨rfl, rfl⟩))
    all_goals go_ret
    all_goals exact ⟨rfl, (by repeat (first | assumption | exact Below.refl _ _ | (refine below_chain ?_ (by assumption) (by first | omega | (simp <;> omega) | simp)) | (refine Below.alloc ?_ (by first | omega | (simp <;> omega) | simp) _) | (apply below_drewN) | (apply below_drew) | (refine Below.setCell ?_ (by first | omega | (simp <;> omega) | simp) _)))⟩
theorem sOn_any (a b c d u v : Int) (w : World) (h1 : Pt.pv a b = true) (h2 : Pt.pv c d = true) (h3 : Pt.pv u v = true) :
    Calls Try.prog 63 #[.agg #[.int .i64 a, .int .i64 b], .agg #[.int .i64 c, .int .i64 d], .agg #[.int .i64 u, .int .i64 v]] w fun e w' => e = .returned (.bool (Pt.onB a b c d u v)) ∧ Below w.heap.size w w' := by
  by_cases hc : Pt.cr (c - a) (d - b) (u - a) (v - b) = 0
  · exact sOn_on a b c d u v _ w h1 h2 h3 hc rfl
  · have e : Pt.onB a b c d u v = false := by unfold Pt.onB; simp [hc]
    rw [e]; exact sOn_off a b c d u v w h1 h2 h3 hc
theorem sOn_is (a b c d u v : Int) (q : Bool) (w : World) (h1 : Pt.pv a b = true) (h2 : Pt.pv c d = true) (h3 : Pt.pv u v = true) (hq : Pt.onB a b c d u v = q) :
    Calls Try.prog 63 #[.agg #[.int .i64 a, .int .i64 b], .agg #[.int .i64 c, .int .i64 d], .agg #[.int .i64 u, .int .i64 v]] w fun e w' => e = .returned (.bool q) ∧ Below w.heap.size w w' := by
  rw [← hq]; exact sOn_any a b c d u v w h1 h2 h3

end Go.Proofs.Ytgncjpakclbegaa
namespace Go.Proofs.Ytgncjpakclbegaa
open Go.RowKit
set_option linter.unusedVariables false

theorem sStep_any (a b c d : Int) (w : World) :
    Calls Try.prog 128 #[.agg #[.int .i64 a, .int .i64 b], .agg #[.int .i64 c, .int .i64 d]] w fun e w' => e = .returned (.tuple #[.agg #[.int .i64 (if both a b c d then c - a else 0), .int .i64 (if both a b c d then d - b else 0)], .bool (both a b c d)]) ∧ Below w.heap.size w w' := by
  by_cases h : both a b c d = true
  · obtain ⟨h1, h2⟩ := both_true h
    have := sStep_is a b c d true true w h1 h2
    simpa [h] using this
  · have h' : both a b c d = false := by simpa using h
    have := sStep_is a b c d _ _ w rfl rfl
    unfold both at h'
    simpa [both, h'] using this
theorem iGaps_any (a b c d : Int) (w : World) :
    Calls Try.prog 110 #[.agg #[.int .i64 a, .int .i64 b], .agg #[.int .i64 c, .int .i64 d]] w fun e w' => e = .returned (.int .i64 (if both a b c d then (Int.gcd (c - a) (d - b) : Int) else -1)) ∧ Below w.heap.size w w' := by
  by_cases h : both a b c d = true
  · simp only [h, if_true]; exact iGaps_yes a b c d w h
  · have h' : both a b c d = false := by simpa using h
    simp only [h', Bool.false_eq_true, if_false]; exact iGaps_no a b c d w h'
theorem sGaps_any (a b c d : Int) (w : World) :
    Calls Try.prog 109 #[.agg #[.int .i64 a, .int .i64 b], .agg #[.int .i64 c, .int .i64 d]] w fun e w' => e = .returned (.int .i64 (if both a b c d then (Int.gcd (c - a) (d - b) : Int) else -1)) ∧ Below w.heap.size w w' := by
  by_cases h : both a b c d = true
  · obtain ⟨h1, h2⟩ := both_true h
    simp only [h, if_true]; exact sGaps_yes a b c d w h1 h2
  · have h' : both a b c d = false := by simpa using h
    simp only [h', Bool.false_eq_true, if_false]; exact sGaps_no a b c d _ _ w rfl rfl h'
end Go.Proofs.Ytgncjpakclbegaa
namespace Go.Proofs.Ytgncjpakclbegaa
open Go.RowKit
theorem arr_in (d : Nat) (x y z t : Int) (w : World) : (Op.equalIn (d + 2) 84 (.agg #[.int .i64 x, .int .i64 y]) (.agg #[.int .i64 z, .int .i64 t])).run Try.prog w = .ok (x == z && y == t) w := by
  have hu : Try.prog.underlying 84 = some (.array 2 3) := by kernel_rfl
  have hi := Try.underlying3
  have hs : ∀ w, (sizeOf 3).run Try.prog w = .ok 1 w := fun w => by kernel_rfl
  have p0 : ∀ (w : World) (x y : Int), (part 3 #[.int .i64 x, .int .i64 y] (0 * 1)).run Try.prog w = .ok (.int .i64 x) w := fun w x y => by kernel_rfl
  have p1 : ∀ (w : World) (x y : Int), (part 3 #[.int .i64 x, .int .i64 y] (1 * 1)).run Try.prog w = .ok (.int .i64 y) w := fun w x y => by kernel_rfl
  have e := fun (a b : Int) (w : World) => run_equalIn_int (P := Try.prog) w d 3 .i64 .i64 a b hi
  rw [Op.equalIn]
  simp only [Sem.run_bind, run_underlying hu, Result.andThen_ok, hs]
  simp only [Std.Legacy.Range.forIn_eq_forIn_range', Std.Legacy.Range.size, List.range'_succ, List.range'_zero, List.forIn_cons, List.forIn_nil, Nat.sub_zero, Nat.reduceAdd, Nat.reduceSub, Nat.reduceDiv, Nat.div_one, Sem.run_bind, p0, p1, e, Result.andThen_ok, Nat.zero_add]
  by_cases h1 : x = z <;> by_cases h2 : y = t <;> simp [h1, h2, p1, e]
theorem arr_eql (x y z t : Int) (w : World) : (binOp .eql 84 (.agg #[.int .i64 x, .int .i64 y]) (.agg #[.int .i64 z, .int .i64 t])).run Try.prog w = .ok (.bool (x == z && y == t)) w := by
  rw [run_eql_struct, show (10000 : Nat) = 9998 + 2 from rfl, arr_in]
  rfl
end Go.Proofs.Ytgncjpakclbegaa
namespace Go.Proofs.Ytgncjpakclbegaa
open Go.RowKit
set_option linter.unusedVariables false

theorem kp {L : Array Bool} {i j : Nat} (h : (L.setIfInBounds i true).getD j true = true) (hne : i ≠ j) : L.getD j true = true := by rwa [getD_set_ne true hne] at h
theorem tf {L : Array Bool} {i : Nat} (h : L.getD i false = true) : L.getD i true = true := by
  by_cases hi : i < L.size
  · simp [hi] at h ⊢; exact h
  · simp [hi] at h
theorem Two.other {T : TypeId} {w : World} {B C i : Nat} {x y : Int} (h : Two T w B x y) (hne : B ≠ C) (v : Value) : Two T (w.setCell ⟨C, i, none⟩ v) B x y := by
  unfold Two at *
  rw [Below.heap_setCell w ⟨C, i, none⟩ v B hne]; exact h
theorem iOn_no (a b c d u v : Int) (w : World) (h : three a b c d u v = false) :
    Calls Try.prog 131 #[.agg #[.int .i64 a, .int .i64 b], .agg #[.int .i64 c, .int .i64 d], .agg #[.int .i64 u, .int .i64 v]] w fun e w' => e = .returned (.bool false) ∧ Below w.heap.size w w' := by
  go_enter Try.func131, Try.ntmps131
  go_wp2_with ((go_at_call 86; (with_reducible refine (valid3 a b c d u v false _ _ ?_ ?_ ?_ ?_ ?_ ?_ ?_ h).mono ?_); (focus ((first | (simp; omega) | omega | (simp [*, go_sem]; done) | (simp; done)); done)); (focus ((first | (simp; omega) | omega | (simp [*, go_sem]; done) | (simp; done)); done)); (focus ((first | (simp; omega) | omega | (simp [*, go_sem]; done) | (simp; done)); done)); (focus ((first | (simp; omega) | omega | (simp [*, go_sem]; done) | (simp; done)); done)); (focus ((first | (simp; omega) | omega | (simp [*, go_sem]; done) | (simp; done)); done)); (focus ((first | (simp; omega) | omega | (simp [*, go_sem]; done) | (simp; done)); done)); (focus ((first | (simp; omega) | omega | (simp [*, go_sem]; done) | (simp; done)); done)); rintro e wv ⟨rfl, hbn⟩; obtain ⟨hcn, hfn⟩ := bcell hbn; (try simp only [World.size_drew, World.cell?_drew, World.frozen?_drew, World.heap_drewN, World.cell?_drewN, World.frozen?_drewN] at hcn hfn); have hsz := hbn.size; (try simp at hsz); (try have hsl := Nat.lt_of_succ_le hsz); (try have hz0 : w.heap.size < wv.heap.size := (by have := hbn.size; (try simp at this); omega)); (try have hz1 : w.heap.size + 1 < wv.heap.size := (by have := hbn.size; (try simp at this); omega)); (try have hz2 : w.heap.size + 1 + 1 < wv.heap.size := (by have := hbn.size; (try simp at this); omega)); (try have hz3 : w.heap.size + 1 + 1 + 1 < wv.heap.size := (by have := hbn.size; (try simp at this); omega))))
  go_ret
  exact ⟨rfl, (by repeat (first | assumption | exact Below.refl _ _ | (refine below_chain ?_ (by assumption) (by first | omega | (simp <;> omega) | simp)) | (refine Below.alloc ?_ (by first | omega | (simp <;> omega) | simp) _) | (apply below_drewN) | (apply below_drew) | (refine Below.setCell ?_ (by first | omega | (simp <;> omega) | simp) _)))⟩

def Three (wx : World) (base : Nat) (s7 s8 s9 : Value) (a b c d u v : Int) : Prop :=
  ∃ A B C : Nat, s7 = .pointer (some ⟨A, 0, none⟩) ∧ s8 = .pointer (some ⟨B, 0, none⟩) ∧ s9 = .pointer (some ⟨C, 0, none⟩) ∧ Two 84 wx A a b ∧ Two 84 wx B c d ∧ Two 84 wx C u v
set_option maxRecDepth 100000 in
set_option maxHeartbeats 2000000 in
theorem iOn_yes (a b c d u v : Int) (s : Bool) (w : World) (h : three a b c d u v = true) (hs : Pt.onB a b c d u v = s) :
    Calls Try.prog 131 #[.agg #[.int .i64 a, .int .i64 b], .agg #[.int .i64 c, .int .i64 d], .agg #[.int .i64 u, .int .i64 v]] w fun e w' => e = .returned (.bool s) ∧ Below w.heap.size w w' := by
  have cv := fun B w hB a0 a1 a2 a3 a4 a5 => Lib.hid (valid3 a b c d u v true B w hB a0 a1 a2 a3 a4 a5 h)
  go_enter Try.func131, Try.ntmps131
  go_wp2_with ((go_at_call 86; (with_reducible refine ((cv _ _ ?_ ?_ ?_ ?_ ?_ ?_ ?_).out).mono ?_); (focus ((first | (simp; omega) | omega | (simp [*, go_sem]; done) | (simp; done)); done)); (focus ((first | (simp; omega) | omega | (simp [*, go_sem]; done) | (simp; done)); done)); (focus ((first | (simp; omega) | omega | (simp [*, go_sem]; done) | (simp; done)); done)); (focus ((first | (simp; omega) | omega | (simp [*, go_sem]; done) | (simp; done)); done)); (focus ((first | (simp; omega) | omega | (simp [*, go_sem]; done) | (simp; done)); done)); (focus ((first | (simp; omega) | omega | (simp [*, go_sem]; done) | (simp; done)); done)); (focus ((first | (simp; omega) | omega | (simp [*, go_sem]; done) | (simp; done)); done)); rintro e wv ⟨rfl, hbn⟩; obtain ⟨hcn, hfn⟩ := bcell hbn; (try simp only [World.size_drew, World.cell?_drew, World.frozen?_drew, World.heap_drewN, World.cell?_drewN, World.frozen?_drewN] at hcn hfn); have hsz := hbn.size; (try simp at hsz); (try have hsl := Nat.lt_of_succ_le hsz); (try have hz0 : w.heap.size < wv.heap.size := (by have := hbn.size; (try simp at this); omega)); (try have hz1 : w.heap.size + 1 < wv.heap.size := (by have := hbn.size; (try simp at this); omega)); (try have hz2 : w.heap.size + 1 + 1 < wv.heap.size := (by have := hbn.size; (try simp at this); omega)); (try have hz3 : w.heap.size + 1 + 1 + 1 < wv.heap.size := (by have := hbn.size; (try simp at this); omega))))
  clear cv
  have hBv : Below w.heap.size w wv := (by repeat (first | assumption | exact Below.refl _ _ | (refine below_chain ?_ (by assumption) (by first | omega | (simp <;> omega) | simp)) | (refine Below.alloc ?_ (by first | omega | (simp <;> omega) | simp) _) | (apply below_drewN) | (apply below_drew) | (refine Below.setCell ?_ (by first | omega | (simp <;> omega) | simp) _)))
  have q0 : wv.cell? ⟨w.heap.size, 0, none⟩ = some (.int .i64 a) := by simp [*, go_sem]
  have q1 : wv.cell? ⟨w.heap.size, 1, none⟩ = some (.int .i64 b) := by simp [*, go_sem]
  have q2 : wv.cell? ⟨w.heap.size + 1, 0, none⟩ = some (.int .i64 c) := by simp [*, go_sem]
  have q3 : wv.cell? ⟨w.heap.size + 1, 1, none⟩ = some (.int .i64 d) := by simp [*, go_sem]
  have q4 : wv.cell? ⟨w.heap.size + 1 + 1, 0, none⟩ = some (.int .i64 u) := by simp [*, go_sem]
  have q5 : wv.cell? ⟨w.heap.size + 1 + 1, 1, none⟩ = some (.int .i64 v) := by simp [*, go_sem]
  have y0 : w.heap.size < wv.heap.size := by assumption
  have y1 : w.heap.size + 1 < wv.heap.size := by assumption
  have y2 : w.heap.size + 1 + 1 < wv.heap.size := by assumption
  go_upto_region 4 with fail
  go_cut [6, 7, 8, 9] (fun s6 s7 s8 s9 wx => s6 = .bool false ∧ Three wx wv.heap.size s7 s8 s9 a b c d u v ∧ Below w.heap.size w wx)
  case first =>
    clear hcn hfn hbn
    refine wp_region_inv (by kernel_rfl) (by kernel_rfl) (fun L fr wx => ∃ (u18 u19 u20 u21 u22 u23 p7 p8 p9 : Value) (b7 b8 b9 : Nat), fr = ⟨#[.agg #[.int .i64 a, .int .i64 b], .agg #[.int .i64 c, .int .i64 d], .agg #[.int .i64 u, .int .i64 v], .pointer (some ⟨w.heap.size, 0, none⟩), .pointer (some ⟨w.heap.size + 1, 0, none⟩), .pointer (some ⟨w.heap.size + 1 + 1, 0, none⟩), .bool false, p7, p8, p9, undef, undef, .agg #[.int .i64 a, .int .i64 b], .agg #[.int .i64 c, .int .i64 d], .agg #[.int .i64 u, .int .i64 v], .slice (some ⟨w.heap.size + 1 + 1 + 1, 0, none⟩) 3 3, .bool true, .bool false, u18, u19, u20, u21, u22, u23, undef, undef, undef, undef, undef, undef, undef, undef, undef, undef, undef, undef, undef, undef, undef, undef, undef, undef, undef, undef, undef, undef, undef, undef], []⟩ ∧ Below wv.heap.size wv wx ∧ (L.getD 0 true = true → u18 = .agg #[.int .i64 a, .int .i64 b]) ∧ (L.getD 1 true = true → u19 = .agg #[.int .i64 a, .int .i64 b]) ∧ (L.getD 2 true = true → u20 = .agg #[.int .i64 c, .int .i64 d]) ∧ (L.getD 3 true = true → u21 = .agg #[.int .i64 c, .int .i64 d]) ∧ (L.getD 4 true = true → u22 = .agg #[.int .i64 u, .int .i64 v]) ∧ (L.getD 5 true = true → u23 = .agg #[.int .i64 u, .int .i64 v]) ∧ (L.getD 6 true = true → p7 = .pointer (some ⟨b7, 0, none⟩) ∧ wv.heap.size ≤ b7 ∧ ∃ x y : Int, Two 84 wx b7 x y ∧ (L.getD 9 true = true → x = a ∧ y = b)) ∧ (L.getD 9 true = true → L.getD 6 true = true) ∧ (L.getD 7 true = true → p8 = .pointer (some ⟨b8, 0, none⟩) ∧ wv.heap.size ≤ b8 ∧ ∃ x y : Int, Two 84 wx b8 x y ∧ (L.getD 10 true = true → x = c ∧ y = d)) ∧ (L.getD 10 true = true → L.getD 7 true = true) ∧ (L.getD 8 true = true → p9 = .pointer (some ⟨b9, 0, none⟩) ∧ wv.heap.size ≤ b9 ∧ ∃ x y : Int, Two 84 wx b9 x y ∧ (L.getD 11 true = true → x = u ∧ y = v)) ∧ (L.getD 11 true = true → L.getD 8 true = true) ∧ (L.getD 6 true = true → L.getD 7 true = true → b7 ≠ b8) ∧ (L.getD 6 true = true → L.getD 8 true = true → b7 ≠ b9) ∧ (L.getD 7 true = true → L.getD 8 true = true → b8 ≠ b9)) ?_ ?_ ?_
    · refine ⟨undef, undef, undef, undef, undef, undef, undef, undef, undef, 0, 0, 0, rfl, below_drew (Below.refl _ _), ?_⟩
      refine ⟨?_, ?_, ?_, ?_, ?_, ?_, ?_, ?_, ?_, ?_, ?_, ?_, ?_, ?_, ?_⟩ <;> (intro h; first | (exact absurd h (by decide)) | (intro h'; exact absurd h (by decide)))
    · intro L a' wx i o hI ho hun hdep
      obtain ⟨u18, u19, u20, u21, u22, u23, p7, p8, p9, b7, b8, b9, rfl, hB, h0, h1, h2, h3, h4, h5, g6, c9, g7, c10, g8, c11, d78, d79, d89⟩ := hI
      obtain ⟨hcx, hfx⟩ := bcell hB
      have hi : i < 12 := (Array.getElem?_eq_some_iff.1 ho).1
      have hi' : i = 0 ∨ i = 1 ∨ i = 2 ∨ i = 3 ∨ i = 4 ∨ i = 5 ∨ i = 6 ∨ i = 7 ∨ i = 8 ∨ i = 9 ∨ i = 10 ∨ i = 11 := by omega
      clear hi
      rcases hi' with rfl | rfl | rfl | rfl | rfl | rfl | rfl | rfl | rfl | rfl | rfl | rfl
      · -- operation 0
        obtain rfl := Option.some.inj ho
        refine wpOp_step rfl (fun K hK => ?_)
        go_simp
        refine hK _ _ ?_
        exact ⟨_, u19, u20, u21, u22, u23, p7, p8, p9, b7, b8, b9, rfl, hB, (fun _ => rfl), (fun h => h1 (kp h (by decide : (0 : Nat) ≠ 1))), (fun h => h2 (kp h (by decide : (0 : Nat) ≠ 2))), (fun h => h3 (kp h (by decide : (0 : Nat) ≠ 3))), (fun h => h4 (kp h (by decide : (0 : Nat) ≠ 4))), (fun h => h5 (kp h (by decide : (0 : Nat) ≠ 5))), (fun h => let ⟨e1, e2, x, y, t, f⟩ := g6 (kp h (by decide : (0 : Nat) ≠ 6)); ⟨e1, e2, x, y, t, fun h' => f (kp h' (by decide : (0 : Nat) ≠ 9))⟩), (fun h => by rw [getD_set_ne true (by decide)]; exact c9 (kp h (by decide : (0 : Nat) ≠ 9))), (fun h => let ⟨e1, e2, x, y, t, f⟩ := g7 (kp h (by decide : (0 : Nat) ≠ 7)); ⟨e1, e2, x, y, t, fun h' => f (kp h' (by decide : (0 : Nat) ≠ 10))⟩), (fun h => by rw [getD_set_ne true (by decide)]; exact c10 (kp h (by decide : (0 : Nat) ≠ 10))), (fun h => let ⟨e1, e2, x, y, t, f⟩ := g8 (kp h (by decide : (0 : Nat) ≠ 8)); ⟨e1, e2, x, y, t, fun h' => f (kp h' (by decide : (0 : Nat) ≠ 11))⟩), (fun h => by rw [getD_set_ne true (by decide)]; exact c11 (kp h (by decide : (0 : Nat) ≠ 11))), (fun h h' => d78 (kp h (by decide : (0 : Nat) ≠ 6)) (kp h' (by decide : (0 : Nat) ≠ 7))), (fun h h' => d79 (kp h (by decide : (0 : Nat) ≠ 6)) (kp h' (by decide : (0 : Nat) ≠ 8))), (fun h h' => d89 (kp h (by decide : (0 : Nat) ≠ 7)) (kp h' (by decide : (0 : Nat) ≠ 8)))⟩
      · -- operation 1
        obtain rfl := Option.some.inj ho
        have D0 := tf (hdep ⟨0, .data⟩ (by simp) rfl)
        obtain rfl := h0 D0
        refine wpOp_step rfl (fun K hK => ?_)
        go_simp
        refine (placeOf_any a b _).mono ?_
        rintro e wn ⟨rfl, hbn⟩
        dsimp only
        refine hK _ _ ?_
        exact ⟨_, _, u20, u21, u22, u23, p7, p8, p9, b7, b8, b9, rfl, below_chain hB hbn hB.size, (fun _ => rfl), (fun _ => rfl), (fun h => h2 (kp h (by decide : (1 : Nat) ≠ 2))), (fun h => h3 (kp h (by decide : (1 : Nat) ≠ 3))), (fun h => h4 (kp h (by decide : (1 : Nat) ≠ 4))), (fun h => h5 (kp h (by decide : (1 : Nat) ≠ 5))), (fun h => let ⟨e1, e2, x, y, t, f⟩ := g6 (kp h (by decide : (1 : Nat) ≠ 6)); ⟨e1, e2, x, y, t.below hbn, fun h' => f (kp h' (by decide : (1 : Nat) ≠ 9))⟩), (fun h => by rw [getD_set_ne true (by decide)]; exact c9 (kp h (by decide : (1 : Nat) ≠ 9))), (fun h => let ⟨e1, e2, x, y, t, f⟩ := g7 (kp h (by decide : (1 : Nat) ≠ 7)); ⟨e1, e2, x, y, t.below hbn, fun h' => f (kp h' (by decide : (1 : Nat) ≠ 10))⟩), (fun h => by rw [getD_set_ne true (by decide)]; exact c10 (kp h (by decide : (1 : Nat) ≠ 10))), (fun h => let ⟨e1, e2, x, y, t, f⟩ := g8 (kp h (by decide : (1 : Nat) ≠ 8)); ⟨e1, e2, x, y, t.below hbn, fun h' => f (kp h' (by decide : (1 : Nat) ≠ 11))⟩), (fun h => by rw [getD_set_ne true (by decide)]; exact c11 (kp h (by decide : (1 : Nat) ≠ 11))), (fun h h' => d78 (kp h (by decide : (1 : Nat) ≠ 6)) (kp h' (by decide : (1 : Nat) ≠ 7))), (fun h h' => d79 (kp h (by decide : (1 : Nat) ≠ 6)) (kp h' (by decide : (1 : Nat) ≠ 8))), (fun h h' => d89 (kp h (by decide : (1 : Nat) ≠ 7)) (kp h' (by decide : (1 : Nat) ≠ 8)))⟩
      · -- operation 2
        obtain rfl := Option.some.inj ho
        refine wpOp_step rfl (fun K hK => ?_)
        go_simp
        refine hK _ _ ?_
        exact ⟨u18, u19, _, u21, u22, u23, p7, p8, p9, b7, b8, b9, rfl, hB, (fun h => h0 (kp h (by decide : (2 : Nat) ≠ 0))), (fun h => h1 (kp h (by decide : (2 : Nat) ≠ 1))), (fun _ => rfl), (fun h => h3 (kp h (by decide : (2 : Nat) ≠ 3))), (fun h => h4 (kp h (by decide : (2 : Nat) ≠ 4))), (fun h => h5 (kp h (by decide : (2 : Nat) ≠ 5))), (fun h => let ⟨e1, e2, x, y, t, f⟩ := g6 (kp h (by decide : (2 : Nat) ≠ 6)); ⟨e1, e2, x, y, t, fun h' => f (kp h' (by decide : (2 : Nat) ≠ 9))⟩), (fun h => by rw [getD_set_ne true (by decide)]; exact c9 (kp h (by decide : (2 : Nat) ≠ 9))), (fun h => let ⟨e1, e2, x, y, t, f⟩ := g7 (kp h (by decide : (2 : Nat) ≠ 7)); ⟨e1, e2, x, y, t, fun h' => f (kp h' (by decide : (2 : Nat) ≠ 10))⟩), (fun h => by rw [getD_set_ne true (by decide)]; exact c10 (kp h (by decide : (2 : Nat) ≠ 10))), (fun h => let ⟨e1, e2, x, y, t, f⟩ := g8 (kp h (by decide : (2 : Nat) ≠ 8)); ⟨e1, e2, x, y, t, fun h' => f (kp h' (by decide : (2 : Nat) ≠ 11))⟩), (fun h => by rw [getD_set_ne true (by decide)]; exact c11 (kp h (by decide : (2 : Nat) ≠ 11))), (fun h h' => d78 (kp h (by decide : (2 : Nat) ≠ 6)) (kp h' (by decide : (2 : Nat) ≠ 7))), (fun h h' => d79 (kp h (by decide : (2 : Nat) ≠ 6)) (kp h' (by decide : (2 : Nat) ≠ 8))), (fun h h' => d89 (kp h (by decide : (2 : Nat) ≠ 7)) (kp h' (by decide : (2 : Nat) ≠ 8)))⟩
      · -- operation 3
        obtain rfl := Option.some.inj ho
        have D2 := tf (hdep ⟨2, .data⟩ (by simp) rfl)
        obtain rfl := h2 D2
        refine wpOp_step rfl (fun K hK => ?_)
        go_simp
        refine (placeOf_any c d _).mono ?_
        rintro e wn ⟨rfl, hbn⟩
        dsimp only
        refine hK _ _ ?_
        exact ⟨u18, u19, _, _, u22, u23, p7, p8, p9, b7, b8, b9, rfl, below_chain hB hbn hB.size, (fun h => h0 (kp h (by decide : (3 : Nat) ≠ 0))), (fun h => h1 (kp h (by decide : (3 : Nat) ≠ 1))), (fun _ => rfl), (fun _ => rfl), (fun h => h4 (kp h (by decide : (3 : Nat) ≠ 4))), (fun h => h5 (kp h (by decide : (3 : Nat) ≠ 5))), (fun h => let ⟨e1, e2, x, y, t, f⟩ := g6 (kp h (by decide : (3 : Nat) ≠ 6)); ⟨e1, e2, x, y, t.below hbn, fun h' => f (kp h' (by decide : (3 : Nat) ≠ 9))⟩), (fun h => by rw [getD_set_ne true (by decide)]; exact c9 (kp h (by decide : (3 : Nat) ≠ 9))), (fun h => let ⟨e1, e2, x, y, t, f⟩ := g7 (kp h (by decide : (3 : Nat) ≠ 7)); ⟨e1, e2, x, y, t.below hbn, fun h' => f (kp h' (by decide : (3 : Nat) ≠ 10))⟩), (fun h => by rw [getD_set_ne true (by decide)]; exact c10 (kp h (by decide : (3 : Nat) ≠ 10))), (fun h => let ⟨e1, e2, x, y, t, f⟩ := g8 (kp h (by decide : (3 : Nat) ≠ 8)); ⟨e1, e2, x, y, t.below hbn, fun h' => f (kp h' (by decide : (3 : Nat) ≠ 11))⟩), (fun h => by rw [getD_set_ne true (by decide)]; exact c11 (kp h (by decide : (3 : Nat) ≠ 11))), (fun h h' => d78 (kp h (by decide : (3 : Nat) ≠ 6)) (kp h' (by decide : (3 : Nat) ≠ 7))), (fun h h' => d79 (kp h (by decide : (3 : Nat) ≠ 6)) (kp h' (by decide : (3 : Nat) ≠ 8))), (fun h h' => d89 (kp h (by decide : (3 : Nat) ≠ 7)) (kp h' (by decide : (3 : Nat) ≠ 8)))⟩
      · -- operation 4
        obtain rfl := Option.some.inj ho
        refine wpOp_step rfl (fun K hK => ?_)
        go_simp
        refine hK _ _ ?_
        exact ⟨u18, u19, u20, u21, _, u23, p7, p8, p9, b7, b8, b9, rfl, hB, (fun h => h0 (kp h (by decide : (4 : Nat) ≠ 0))), (fun h => h1 (kp h (by decide : (4 : Nat) ≠ 1))), (fun h => h2 (kp h (by decide : (4 : Nat) ≠ 2))), (fun h => h3 (kp h (by decide : (4 : Nat) ≠ 3))), (fun _ => rfl), (fun h => h5 (kp h (by decide : (4 : Nat) ≠ 5))), (fun h => let ⟨e1, e2, x, y, t, f⟩ := g6 (kp h (by decide : (4 : Nat) ≠ 6)); ⟨e1, e2, x, y, t, fun h' => f (kp h' (by decide : (4 : Nat) ≠ 9))⟩), (fun h => by rw [getD_set_ne true (by decide)]; exact c9 (kp h (by decide : (4 : Nat) ≠ 9))), (fun h => let ⟨e1, e2, x, y, t, f⟩ := g7 (kp h (by decide : (4 : Nat) ≠ 7)); ⟨e1, e2, x, y, t, fun h' => f (kp h' (by decide : (4 : Nat) ≠ 10))⟩), (fun h => by rw [getD_set_ne true (by decide)]; exact c10 (kp h (by decide : (4 : Nat) ≠ 10))), (fun h => let ⟨e1, e2, x, y, t, f⟩ := g8 (kp h (by decide : (4 : Nat) ≠ 8)); ⟨e1, e2, x, y, t, fun h' => f (kp h' (by decide : (4 : Nat) ≠ 11))⟩), (fun h => by rw [getD_set_ne true (by decide)]; exact c11 (kp h (by decide : (4 : Nat) ≠ 11))), (fun h h' => d78 (kp h (by decide : (4 : Nat) ≠ 6)) (kp h' (by decide : (4 : Nat) ≠ 7))), (fun h h' => d79 (kp h (by decide : (4 : Nat) ≠ 6)) (kp h' (by decide : (4 : Nat) ≠ 8))), (fun h h' => d89 (kp h (by decide : (4 : Nat) ≠ 7)) (kp h' (by decide : (4 : Nat) ≠ 8)))⟩
      · -- operation 5
        obtain rfl := Option.some.inj ho
        have D4 := tf (hdep ⟨4, .data⟩ (by simp) rfl)
        obtain rfl := h4 D4
        refine wpOp_step rfl (fun K hK => ?_)
        go_simp
        refine (placeOf_any u v _).mono ?_
        rintro e wn ⟨rfl, hbn⟩
        dsimp only
        refine hK _ _ ?_
        exact ⟨u18, u19, u20, u21, _, _, p7, p8, p9, b7, b8, b9, rfl, below_chain hB hbn hB.size, (fun h => h0 (kp h (by decide : (5 : Nat) ≠ 0))), (fun h => h1 (kp h (by decide : (5 : Nat) ≠ 1))), (fun h => h2 (kp h (by decide : (5 : Nat) ≠ 2))), (fun h => h3 (kp h (by decide : (5 : Nat) ≠ 3))), (fun _ => rfl), (fun _ => rfl), (fun h => let ⟨e1, e2, x, y, t, f⟩ := g6 (kp h (by decide : (5 : Nat) ≠ 6)); ⟨e1, e2, x, y, t.below hbn, fun h' => f (kp h' (by decide : (5 : Nat) ≠ 9))⟩), (fun h => by rw [getD_set_ne true (by decide)]; exact c9 (kp h (by decide : (5 : Nat) ≠ 9))), (fun h => let ⟨e1, e2, x, y, t, f⟩ := g7 (kp h (by decide : (5 : Nat) ≠ 7)); ⟨e1, e2, x, y, t.below hbn, fun h' => f (kp h' (by decide : (5 : Nat) ≠ 10))⟩), (fun h => by rw [getD_set_ne true (by decide)]; exact c10 (kp h (by decide : (5 : Nat) ≠ 10))), (fun h => let ⟨e1, e2, x, y, t, f⟩ := g8 (kp h (by decide : (5 : Nat) ≠ 8)); ⟨e1, e2, x, y, t.below hbn, fun h' => f (kp h' (by decide : (5 : Nat) ≠ 11))⟩), (fun h => by rw [getD_set_ne true (by decide)]; exact c11 (kp h (by decide : (5 : Nat) ≠ 11))), (fun h h' => d78 (kp h (by decide : (5 : Nat) ≠ 6)) (kp h' (by decide : (5 : Nat) ≠ 7))), (fun h h' => d79 (kp h (by decide : (5 : Nat) ≠ 6)) (kp h' (by decide : (5 : Nat) ≠ 8))), (fun h h' => d89 (kp h (by decide : (5 : Nat) ≠ 7)) (kp h' (by decide : (5 : Nat) ≠ 8)))⟩
      · -- operation 6
        obtain rfl := Option.some.inj ho
        refine wpOp_step rfl (fun K hK => ?_)
        go_simp
        refine hK _ _ ?_
        exact ⟨u18, u19, u20, u21, u22, u23, _, p8, p9, _, b8, b9, rfl, hB.alloc hB.size _, (fun h => h0 (kp h (by decide : (6 : Nat) ≠ 0))), (fun h => h1 (kp h (by decide : (6 : Nat) ≠ 1))), (fun h => h2 (kp h (by decide : (6 : Nat) ≠ 2))), (fun h => h3 (kp h (by decide : (6 : Nat) ≠ 3))), (fun h => h4 (kp h (by decide : (6 : Nat) ≠ 4))), (fun h => h5 (kp h (by decide : (6 : Nat) ≠ 5))), (fun _ => ⟨rfl, hB.size, 0, 0, Two.new _ _ _, fun h => absurd (c9 (kp h (by decide : (6 : Nat) ≠ 9))) (by rw [hun]; decide)⟩), (fun _ => getD_set_self _ _), (fun h => let ⟨e1, e2, x, y, t, f⟩ := g7 (kp h (by decide : (6 : Nat) ≠ 7)); ⟨e1, e2, x, y, t.below ((Below.refl _ _).alloc (Nat.le_refl _) _), fun h' => f (kp h' (by decide : (6 : Nat) ≠ 10))⟩), (fun h => by rw [getD_set_ne true (by decide)]; exact c10 (kp h (by decide : (6 : Nat) ≠ 10))), (fun h => let ⟨e1, e2, x, y, t, f⟩ := g8 (kp h (by decide : (6 : Nat) ≠ 8)); ⟨e1, e2, x, y, t.below ((Below.refl _ _).alloc (Nat.le_refl _) _), fun h' => f (kp h' (by decide : (6 : Nat) ≠ 11))⟩), (fun h => by rw [getD_set_ne true (by decide)]; exact c11 (kp h (by decide : (6 : Nat) ≠ 11))), (fun _ h => by obtain ⟨_, _, x, y, t, _⟩ := g7 (kp h (by decide : (6 : Nat) ≠ 7)); have := t.lt; omega), (fun _ h => by obtain ⟨_, _, x, y, t, _⟩ := g8 (kp h (by decide : (6 : Nat) ≠ 8)); have := t.lt; omega), (fun h h' => d89 (kp h (by decide : (6 : Nat) ≠ 7)) (kp h' (by decide : (6 : Nat) ≠ 8)))⟩
      · -- operation 7
        obtain rfl := Option.some.inj ho
        refine wpOp_step rfl (fun K hK => ?_)
        go_simp
        refine hK _ _ ?_
        exact ⟨u18, u19, u20, u21, u22, u23, p7, _, p9, b7, _, b9, rfl, hB.alloc hB.size _, (fun h => h0 (kp h (by decide : (7 : Nat) ≠ 0))), (fun h => h1 (kp h (by decide : (7 : Nat) ≠ 1))), (fun h => h2 (kp h (by decide : (7 : Nat) ≠ 2))), (fun h => h3 (kp h (by decide : (7 : Nat) ≠ 3))), (fun h => h4 (kp h (by decide : (7 : Nat) ≠ 4))), (fun h => h5 (kp h (by decide : (7 : Nat) ≠ 5))), (fun h => let ⟨e1, e2, x, y, t, f⟩ := g6 (kp h (by decide : (7 : Nat) ≠ 6)); ⟨e1, e2, x, y, t.below ((Below.refl _ _).alloc (Nat.le_refl _) _), fun h' => f (kp h' (by decide : (7 : Nat) ≠ 9))⟩), (fun h => by rw [getD_set_ne true (by decide)]; exact c9 (kp h (by decide : (7 : Nat) ≠ 9))), (fun _ => ⟨rfl, hB.size, 0, 0, Two.new _ _ _, fun h => absurd (c10 (kp h (by decide : (7 : Nat) ≠ 10))) (by rw [hun]; decide)⟩), (fun _ => getD_set_self _ _), (fun h => let ⟨e1, e2, x, y, t, f⟩ := g8 (kp h (by decide : (7 : Nat) ≠ 8)); ⟨e1, e2, x, y, t.below ((Below.refl _ _).alloc (Nat.le_refl _) _), fun h' => f (kp h' (by decide : (7 : Nat) ≠ 11))⟩), (fun h => by rw [getD_set_ne true (by decide)]; exact c11 (kp h (by decide : (7 : Nat) ≠ 11))), (fun h _ => by obtain ⟨_, _, x, y, t, _⟩ := g6 (kp h (by decide : (7 : Nat) ≠ 6)); have := t.lt; omega), (fun h h' => d79 (kp h (by decide : (7 : Nat) ≠ 6)) (kp h' (by decide : (7 : Nat) ≠ 8))), (fun _ h => by obtain ⟨_, _, x, y, t, _⟩ := g8 (kp h (by decide : (7 : Nat) ≠ 8)); have := t.lt; omega)⟩
      · -- operation 8
        obtain rfl := Option.some.inj ho
        refine wpOp_step rfl (fun K hK => ?_)
        go_simp
        refine hK _ _ ?_
        exact ⟨u18, u19, u20, u21, u22, u23, p7, p8, _, b7, b8, _, rfl, hB.alloc hB.size _, (fun h => h0 (kp h (by decide : (8 : Nat) ≠ 0))), (fun h => h1 (kp h (by decide : (8 : Nat) ≠ 1))), (fun h => h2 (kp h (by decide : (8 : Nat) ≠ 2))), (fun h => h3 (kp h (by decide : (8 : Nat) ≠ 3))), (fun h => h4 (kp h (by decide : (8 : Nat) ≠ 4))), (fun h => h5 (kp h (by decide : (8 : Nat) ≠ 5))), (fun h => let ⟨e1, e2, x, y, t, f⟩ := g6 (kp h (by decide : (8 : Nat) ≠ 6)); ⟨e1, e2, x, y, t.below ((Below.refl _ _).alloc (Nat.le_refl _) _), fun h' => f (kp h' (by decide : (8 : Nat) ≠ 9))⟩), (fun h => by rw [getD_set_ne true (by decide)]; exact c9 (kp h (by decide : (8 : Nat) ≠ 9))), (fun h => let ⟨e1, e2, x, y, t, f⟩ := g7 (kp h (by decide : (8 : Nat) ≠ 7)); ⟨e1, e2, x, y, t.below ((Below.refl _ _).alloc (Nat.le_refl _) _), fun h' => f (kp h' (by decide : (8 : Nat) ≠ 10))⟩), (fun h => by rw [getD_set_ne true (by decide)]; exact c10 (kp h (by decide : (8 : Nat) ≠ 10))), (fun _ => ⟨rfl, hB.size, 0, 0, Two.new _ _ _, fun h => absurd (c11 (kp h (by decide : (8 : Nat) ≠ 11))) (by rw [hun]; decide)⟩), (fun _ => getD_set_self _ _), (fun h h' => d78 (kp h (by decide : (8 : Nat) ≠ 6)) (kp h' (by decide : (8 : Nat) ≠ 7))), (fun h _ => by obtain ⟨_, _, x, y, t, _⟩ := g6 (kp h (by decide : (8 : Nat) ≠ 6)); have := t.lt; omega), (fun h _ => by obtain ⟨_, _, x, y, t, _⟩ := g7 (kp h (by decide : (8 : Nat) ≠ 7)); have := t.lt; omega)⟩
      · -- operation 9
        obtain rfl := Option.some.inj ho
        have D6 := tf (hdep ⟨6, .data⟩ (by simp) rfl)
        have D1 := tf (hdep ⟨1, .data⟩ (by simp) rfl)
        obtain ⟨rfl, e2, x, y, t, f⟩ := g6 D6
        obtain rfl := h1 D1
        have t0 := t.c0
        have t1 := t.c1
        have t2 := t.f0
        have t3 := t.f1
        refine wpOp_step rfl (fun K hK => ?_)
        go_simp
        refine hK _ _ ?_
        exact ⟨u18, _, u20, u21, u22, u23, _, p8, p9, b7, b8, b9, rfl, (hB.setCell (p := ⟨b7, 0, none⟩) e2 _).setCell (p := ⟨b7, 1, none⟩) e2 _, (fun h => h0 (kp h (by decide : (9 : Nat) ≠ 0))), (fun _ => rfl), (fun h => h2 (kp h (by decide : (9 : Nat) ≠ 2))), (fun h => h3 (kp h (by decide : (9 : Nat) ≠ 3))), (fun h => h4 (kp h (by decide : (9 : Nat) ≠ 4))), (fun h => h5 (kp h (by decide : (9 : Nat) ≠ 5))), (fun _ => ⟨rfl, e2, _, _, t.set _ _, fun _ => ⟨rfl, rfl⟩⟩), (fun _ => by rw [getD_set_ne true (by decide)]; exact D6), (fun h => let ⟨e1, e2', x', y', t', f'⟩ := g7 (kp h (by decide : (9 : Nat) ≠ 7)); ⟨e1, e2', x', y', (t'.other (Ne.symm (d78 D6 (kp h (by decide : (9 : Nat) ≠ 7)))) _).other (Ne.symm (d78 D6 (kp h (by decide : (9 : Nat) ≠ 7)))) _, fun h' => f' (kp h' (by decide : (9 : Nat) ≠ 10))⟩), (fun h => by rw [getD_set_ne true (by decide)]; exact c10 (kp h (by decide : (9 : Nat) ≠ 10))), (fun h => let ⟨e1, e2', x', y', t', f'⟩ := g8 (kp h (by decide : (9 : Nat) ≠ 8)); ⟨e1, e2', x', y', (t'.other (Ne.symm (d79 D6 (kp h (by decide : (9 : Nat) ≠ 8)))) _).other (Ne.symm (d79 D6 (kp h (by decide : (9 : Nat) ≠ 8)))) _, fun h' => f' (kp h' (by decide : (9 : Nat) ≠ 11))⟩), (fun h => by rw [getD_set_ne true (by decide)]; exact c11 (kp h (by decide : (9 : Nat) ≠ 11))), (fun h h' => d78 (kp h (by decide : (9 : Nat) ≠ 6)) (kp h' (by decide : (9 : Nat) ≠ 7))), (fun h h' => d79 (kp h (by decide : (9 : Nat) ≠ 6)) (kp h' (by decide : (9 : Nat) ≠ 8))), (fun h h' => d89 (kp h (by decide : (9 : Nat) ≠ 7)) (kp h' (by decide : (9 : Nat) ≠ 8)))⟩
      · -- operation 10
        obtain rfl := Option.some.inj ho
        have D7 := tf (hdep ⟨7, .data⟩ (by simp) rfl)
        have D3 := tf (hdep ⟨3, .data⟩ (by simp) rfl)
        obtain ⟨rfl, e2, x, y, t, f⟩ := g7 D7
        obtain rfl := h3 D3
        have t0 := t.c0
        have t1 := t.c1
        have t2 := t.f0
        have t3 := t.f1
        refine wpOp_step rfl (fun K hK => ?_)
        go_simp
        refine hK _ _ ?_
        exact ⟨u18, u19, u20, _, u22, u23, p7, _, p9, b7, b8, b9, rfl, (hB.setCell (p := ⟨b8, 0, none⟩) e2 _).setCell (p := ⟨b8, 1, none⟩) e2 _, (fun h => h0 (kp h (by decide : (10 : Nat) ≠ 0))), (fun h => h1 (kp h (by decide : (10 : Nat) ≠ 1))), (fun h => h2 (kp h (by decide : (10 : Nat) ≠ 2))), (fun _ => rfl), (fun h => h4 (kp h (by decide : (10 : Nat) ≠ 4))), (fun h => h5 (kp h (by decide : (10 : Nat) ≠ 5))), (fun h => let ⟨e1, e2', x', y', t', f'⟩ := g6 (kp h (by decide : (10 : Nat) ≠ 6)); ⟨e1, e2', x', y', (t'.other (d78 (kp h (by decide : (10 : Nat) ≠ 6)) D7) _).other (d78 (kp h (by decide : (10 : Nat) ≠ 6)) D7) _, fun h' => f' (kp h' (by decide : (10 : Nat) ≠ 9))⟩), (fun h => by rw [getD_set_ne true (by decide)]; exact c9 (kp h (by decide : (10 : Nat) ≠ 9))), (fun _ => ⟨rfl, e2, _, _, t.set _ _, fun _ => ⟨rfl, rfl⟩⟩), (fun _ => by rw [getD_set_ne true (by decide)]; exact D7), (fun h => let ⟨e1, e2', x', y', t', f'⟩ := g8 (kp h (by decide : (10 : Nat) ≠ 8)); ⟨e1, e2', x', y', (t'.other (Ne.symm (d89 D7 (kp h (by decide : (10 : Nat) ≠ 8)))) _).other (Ne.symm (d89 D7 (kp h (by decide : (10 : Nat) ≠ 8)))) _, fun h' => f' (kp h' (by decide : (10 : Nat) ≠ 11))⟩), (fun h => by rw [getD_set_ne true (by decide)]; exact c11 (kp h (by decide : (10 : Nat) ≠ 11))), (fun h h' => d78 (kp h (by decide : (10 : Nat) ≠ 6)) (kp h' (by decide : (10 : Nat) ≠ 7))), (fun h h' => d79 (kp h (by decide : (10 : Nat) ≠ 6)) (kp h' (by decide : (10 : Nat) ≠ 8))), (fun h h' => d89 (kp h (by decide : (10 : Nat) ≠ 7)) (kp h' (by decide : (10 : Nat) ≠ 8)))⟩
      · -- operation 11
        obtain rfl := Option.some.inj ho
        have D8 := tf (hdep ⟨8, .data⟩ (by simp) rfl)
        have D5 := tf (hdep ⟨5, .data⟩ (by simp) rfl)
        obtain ⟨rfl, e2, x, y, t, f⟩ := g8 D8
        obtain rfl := h5 D5
        have t0 := t.c0
        have t1 := t.c1
        have t2 := t.f0
        have t3 := t.f1
        refine wpOp_step rfl (fun K hK => ?_)
        go_simp
        refine hK _ _ ?_
        exact ⟨u18, u19, u20, u21, u22, _, p7, p8, _, b7, b8, b9, rfl, (hB.setCell (p := ⟨b9, 0, none⟩) e2 _).setCell (p := ⟨b9, 1, none⟩) e2 _, (fun h => h0 (kp h (by decide : (11 : Nat) ≠ 0))), (fun h => h1 (kp h (by decide : (11 : Nat) ≠ 1))), (fun h => h2 (kp h (by decide : (11 : Nat) ≠ 2))), (fun h => h3 (kp h (by decide : (11 : Nat) ≠ 3))), (fun h => h4 (kp h (by decide : (11 : Nat) ≠ 4))), (fun _ => rfl), (fun h => let ⟨e1, e2', x', y', t', f'⟩ := g6 (kp h (by decide : (11 : Nat) ≠ 6)); ⟨e1, e2', x', y', (t'.other (d79 (kp h (by decide : (11 : Nat) ≠ 6)) D8) _).other (d79 (kp h (by decide : (11 : Nat) ≠ 6)) D8) _, fun h' => f' (kp h' (by decide : (11 : Nat) ≠ 9))⟩), (fun h => by rw [getD_set_ne true (by decide)]; exact c9 (kp h (by decide : (11 : Nat) ≠ 9))), (fun h => let ⟨e1, e2', x', y', t', f'⟩ := g7 (kp h (by decide : (11 : Nat) ≠ 7)); ⟨e1, e2', x', y', (t'.other (d89 (kp h (by decide : (11 : Nat) ≠ 7)) D8) _).other (d89 (kp h (by decide : (11 : Nat) ≠ 7)) D8) _, fun h' => f' (kp h' (by decide : (11 : Nat) ≠ 10))⟩), (fun h => by rw [getD_set_ne true (by decide)]; exact c10 (kp h (by decide : (11 : Nat) ≠ 10))), (fun _ => ⟨rfl, e2, _, _, t.set _ _, fun _ => ⟨rfl, rfl⟩⟩), (fun _ => by rw [getD_set_ne true (by decide)]; exact D8), (fun h h' => d78 (kp h (by decide : (11 : Nat) ≠ 6)) (kp h' (by decide : (11 : Nat) ≠ 7))), (fun h h' => d79 (kp h (by decide : (11 : Nat) ≠ 6)) (kp h' (by decide : (11 : Nat) ≠ 8))), (fun h h' => d89 (kp h (by decide : (11 : Nat) ≠ 7)) (kp h' (by decide : (11 : Nat) ≠ 8)))⟩
    · intro L a' wx hI hall
      obtain ⟨u18, u19, u20, u21, u22, u23, p7, p8, p9, b7, b8, b9, rfl, hB, h0, h1, h2, h3, h4, h5, g6, c9, g7, c10, g8, c11, d78, d79, d89⟩ := hI
      obtain ⟨rfl, e7, x7, y7, t7, f7⟩ := g6 (hall 6 (by decide))
      obtain ⟨rfl, rfl⟩ := f7 (hall 9 (by decide))
      obtain ⟨rfl, e8, x8, y8, t8, f8⟩ := g7 (hall 7 (by decide))
      obtain ⟨rfl, rfl⟩ := f8 (hall 10 (by decide))
      obtain ⟨rfl, e9, x9, y9, t9, f9⟩ := g8 (hall 8 (by decide))
      obtain ⟨rfl, rfl⟩ := f9 (hall 11 (by decide))
      clear h0 h1 h2 h3 h4 h5 g6 g7 g8 c9 c10 c11 d78 d79 d89 hall f7 f8 f9
      dsimp only
      go_wp2_with fail
      go_meet
      exact ⟨rfl, ⟨_, _, _, rfl, rfl, rfl, t7, t8, t9⟩, below_chain hBv hB hBv.size⟩
  case rest =>
    obtain ⟨rfl, ⟨A, B, C, rfl, rfl, rfl, t7, t8, t9⟩, kB⟩ := hcut
    have a0 := t7.c0
    have a1 := t7.c1
    have b0 := t8.c0
    have b1 := t8.c1
    have c0 := t9.c0
    have c1 := t9.c1
    have ae := arr_eql
    have H := Lib.hid hs
    clear hs hcn hfn hbn q0 q1 q2 q3 q4 q5
    by_cases hl : u = a ∧ v = b
    · obtain ⟨rfl, rfl⟩ := hl
      rw [Pt.onB_left] at H
      go_wp2_with fail
      go_ret
      exact ⟨ret_bool H.out, kB⟩
    · by_cases hr : u = c ∧ v = d
      · obtain ⟨rfl, rfl⟩ := hr
        rw [Pt.onB_right] at H
        by_cases hx : u = a
        · subst hx
          have hy : ¬ v = b := fun e => hl ⟨rfl, e⟩
          go_wp2_with fail
          go_ret
          exact ⟨ret_bool H.out, kB⟩
        · go_wp2_with fail
          go_ret
          exact ⟨ret_bool H.out, kB⟩
      · rw [Pt.onB_opp hl hr] at H
        have f1 : (u == a && v == b) = false := by rw [Bool.eq_false_iff]; intro h; simp at h; exact hl h
        have f2 : (u == c && v == d) = false := by rw [Bool.eq_false_iff]; intro h; simp at h; exact hr h
        clear hl hr
        go_upto_region 6 with fail
        clear f1 f2
        obtain ⟨hp1, hp2, hp3⟩ := three_true h
        have cc := fun w => Lib.hid (cross_any (a - u) (b - v) (c - u) (d - v) w (Pt.sv_of hp3 hp1) (Pt.sv_of hp3 hp2))
        have cd := fun w => Lib.hid (dot_any (a - u) (b - v) (c - u) (d - v) w (Pt.sv_of hp3 hp1) (Pt.sv_of hp3 hp2))
        go_upto_region 7 with fail
        go_cut [6, 10, 11] (fun s6 s10 s11 wx => s6 = .bool false ∧ (∃ D E : Nat, s10 = .pointer (some ⟨D, 0, none⟩) ∧ s11 = .pointer (some ⟨E, 0, none⟩) ∧ Two 84 wx D (a - u) (b - v) ∧ Two 84 wx E (c - u) (d - v)) ∧ Below w.heap.size w wx)
        case first =>
          refine wp_region_inv (by kernel_rfl) (by kernel_rfl) (fun L fr wx => ∃ (z32 z33 z34 z35 z36 z37 p10 p11 : Value) (b10 b11 : Nat), fr = ⟨#[.agg #[.int .i64 a, .int .i64 b], .agg #[.int .i64 c, .int .i64 d], .agg #[.int .i64 u, .int .i64 v], .pointer (some ⟨w.heap.size, 0, none⟩), .pointer (some ⟨w.heap.size + 1, 0, none⟩), .pointer (some ⟨w.heap.size + 1 + 1, 0, none⟩), .bool false, .pointer (some ⟨A, 0, none⟩), .pointer (some ⟨B, 0, none⟩), .pointer (some ⟨C, 0, none⟩), p10, p11, u12, u13, u14, u15, u16, u17, u18, u19, u20, u21, u22, u23, .agg #[.int .i64 u, .int .i64 v], .agg #[.int .i64 a, .int .i64 b], .bool false, .bool false, .agg #[.int .i64 u, .int .i64 v], .agg #[.int .i64 c, .int .i64 d], .bool false, .bool false, z32, z33, z34, z35, z36, z37, u38, u39, u40, u41, u42, u43, u44, u45, u46, u47], []⟩ ∧ Below wc.heap.size wc wx ∧ (L.getD 0 true = true → z32 = .agg #[.int .i64 u, .int .i64 v]) ∧ (L.getD 1 true = true → z33 = .agg #[.int .i64 a, .int .i64 b]) ∧ (L.getD 2 true = true → z34 = .agg #[.int .i64 (a - u), .int .i64 (b - v)]) ∧ (L.getD 3 true = true → z35 = .agg #[.int .i64 u, .int .i64 v]) ∧ (L.getD 4 true = true → z36 = .agg #[.int .i64 c, .int .i64 d]) ∧ (L.getD 5 true = true → z37 = .agg #[.int .i64 (c - u), .int .i64 (d - v)]) ∧ (L.getD 6 true = true → p10 = .pointer (some ⟨b10, 0, none⟩) ∧ wc.heap.size ≤ b10 ∧ ∃ x y : Int, Two 84 wx b10 x y ∧ (L.getD 8 true = true → x = a - u ∧ y = b - v)) ∧ (L.getD 8 true = true → L.getD 6 true = true) ∧ (L.getD 7 true = true → p11 = .pointer (some ⟨b11, 0, none⟩) ∧ wc.heap.size ≤ b11 ∧ ∃ x y : Int, Two 84 wx b11 x y ∧ (L.getD 9 true = true → x = c - u ∧ y = d - v)) ∧ (L.getD 9 true = true → L.getD 7 true = true) ∧ (L.getD 6 true = true → L.getD 7 true = true → b10 ≠ b11)) ?_ ?_ ?_
          · refine ⟨_, _, _, _, _, _, _, _, 0, 0, rfl, below_drew (Below.refl _ _), ?_⟩
            refine ⟨?_, ?_, ?_, ?_, ?_, ?_, ?_, ?_, ?_, ?_, ?_⟩ <;> (intro h; first | (exact absurd h (by decide)) | (intro h'; exact absurd h (by decide)))
          · intro L a' wx i o hI ho hun hdep
            obtain ⟨z32, z33, z34, z35, z36, z37, p10, p11, b10, b11, rfl, hB, h0, h1, h2, h3, h4, h5, g6, c8, g7, c9, d10x11⟩ := hI
            obtain ⟨hcx, hfx⟩ := bcell hB
            have t7' := t7.below hB
            have t8' := t8.below hB
            have t9' := t9.below hB
            have a0 := t7'.c0
            have a1 := t7'.c1
            have b0 := t8'.c0
            have b1 := t8'.c1
            have c0 := t9'.c0
            have c1 := t9'.c1
            have hi : i < 10 := (Array.getElem?_eq_some_iff.1 ho).1
            have hi' : i = 0 ∨ i = 1 ∨ i = 2 ∨ i = 3 ∨ i = 4 ∨ i = 5 ∨ i = 6 ∨ i = 7 ∨ i = 8 ∨ i = 9 := by omega
            clear hi
            rcases hi' with rfl | rfl | rfl | rfl | rfl | rfl | rfl | rfl | rfl | rfl
            · obtain rfl := Option.some.inj ho
              refine wpOp_step rfl (fun K hK => ?_)
              go_simp
              refine hK _ _ ?_
              exact ⟨_, z33, z34, z35, z36, z37, p10, p11, b10, b11, rfl, hB, (fun _ => rfl), (fun h => h1 (kp h (by decide : (0 : Nat) ≠ 1))), (fun h => h2 (kp h (by decide : (0 : Nat) ≠ 2))), (fun h => h3 (kp h (by decide : (0 : Nat) ≠ 3))), (fun h => h4 (kp h (by decide : (0 : Nat) ≠ 4))), (fun h => h5 (kp h (by decide : (0 : Nat) ≠ 5))), (fun h => let ⟨e1, e2', x', y', t', f'⟩ := g6 (kp h (by decide : (0 : Nat) ≠ 6)); ⟨e1, e2', x', y', t', fun h' => f' (kp h' (by decide : (0 : Nat) ≠ 8))⟩), (fun h => by rw [getD_set_ne true (by decide)]; exact c8 (kp h (by decide : (0 : Nat) ≠ 8))), (fun h => let ⟨e1, e2', x', y', t', f'⟩ := g7 (kp h (by decide : (0 : Nat) ≠ 7)); ⟨e1, e2', x', y', t', fun h' => f' (kp h' (by decide : (0 : Nat) ≠ 9))⟩), (fun h => by rw [getD_set_ne true (by decide)]; exact c9 (kp h (by decide : (0 : Nat) ≠ 9))), (fun h h' => d10x11 (kp h (by decide : (0 : Nat) ≠ 6)) (kp h' (by decide : (0 : Nat) ≠ 7)))⟩
            · obtain rfl := Option.some.inj ho
              refine wpOp_step rfl (fun K hK => ?_)
              go_simp
              refine hK _ _ ?_
              exact ⟨z32, _, z34, z35, z36, z37, p10, p11, b10, b11, rfl, hB, (fun h => h0 (kp h (by decide : (1 : Nat) ≠ 0))), (fun _ => rfl), (fun h => h2 (kp h (by decide : (1 : Nat) ≠ 2))), (fun h => h3 (kp h (by decide : (1 : Nat) ≠ 3))), (fun h => h4 (kp h (by decide : (1 : Nat) ≠ 4))), (fun h => h5 (kp h (by decide : (1 : Nat) ≠ 5))), (fun h => let ⟨e1, e2', x', y', t', f'⟩ := g6 (kp h (by decide : (1 : Nat) ≠ 6)); ⟨e1, e2', x', y', t', fun h' => f' (kp h' (by decide : (1 : Nat) ≠ 8))⟩), (fun h => by rw [getD_set_ne true (by decide)]; exact c8 (kp h (by decide : (1 : Nat) ≠ 8))), (fun h => let ⟨e1, e2', x', y', t', f'⟩ := g7 (kp h (by decide : (1 : Nat) ≠ 7)); ⟨e1, e2', x', y', t', fun h' => f' (kp h' (by decide : (1 : Nat) ≠ 9))⟩), (fun h => by rw [getD_set_ne true (by decide)]; exact c9 (kp h (by decide : (1 : Nat) ≠ 9))), (fun h h' => d10x11 (kp h (by decide : (1 : Nat) ≠ 6)) (kp h' (by decide : (1 : Nat) ≠ 7)))⟩
            · obtain rfl := Option.some.inj ho
              have D0 := tf (hdep ⟨0, .data⟩ (by simp) rfl)
              have D1 := tf (hdep ⟨1, .data⟩ (by simp) rfl)
              obtain rfl := h0 D0
              obtain rfl := h1 D1
              refine wpOp_step rfl (fun K hK => ?_)
              go_simp
              refine (to_any u v a b _ hp3 hp1).mono ?_
              rintro e wn ⟨rfl, hbn⟩
              dsimp only
              refine hK _ _ ?_
              exact ⟨_, _, _, z35, z36, z37, p10, p11, b10, b11, rfl, below_chain hB hbn hB.size, (fun _ => rfl), (fun _ => rfl), (fun _ => rfl), (fun h => h3 (kp h (by decide : (2 : Nat) ≠ 3))), (fun h => h4 (kp h (by decide : (2 : Nat) ≠ 4))), (fun h => h5 (kp h (by decide : (2 : Nat) ≠ 5))), (fun h => let ⟨e1, e2', x', y', t', f'⟩ := g6 (kp h (by decide : (2 : Nat) ≠ 6)); ⟨e1, e2', x', y', t'.below hbn, fun h' => f' (kp h' (by decide : (2 : Nat) ≠ 8))⟩), (fun h => by rw [getD_set_ne true (by decide)]; exact c8 (kp h (by decide : (2 : Nat) ≠ 8))), (fun h => let ⟨e1, e2', x', y', t', f'⟩ := g7 (kp h (by decide : (2 : Nat) ≠ 7)); ⟨e1, e2', x', y', t'.below hbn, fun h' => f' (kp h' (by decide : (2 : Nat) ≠ 9))⟩), (fun h => by rw [getD_set_ne true (by decide)]; exact c9 (kp h (by decide : (2 : Nat) ≠ 9))), (fun h h' => d10x11 (kp h (by decide : (2 : Nat) ≠ 6)) (kp h' (by decide : (2 : Nat) ≠ 7)))⟩
            · obtain rfl := Option.some.inj ho
              refine wpOp_step rfl (fun K hK => ?_)
              go_simp
              refine hK _ _ ?_
              exact ⟨z32, z33, z34, _, z36, z37, p10, p11, b10, b11, rfl, hB, (fun h => h0 (kp h (by decide : (3 : Nat) ≠ 0))), (fun h => h1 (kp h (by decide : (3 : Nat) ≠ 1))), (fun h => h2 (kp h (by decide : (3 : Nat) ≠ 2))), (fun _ => rfl), (fun h => h4 (kp h (by decide : (3 : Nat) ≠ 4))), (fun h => h5 (kp h (by decide : (3 : Nat) ≠ 5))), (fun h => let ⟨e1, e2', x', y', t', f'⟩ := g6 (kp h (by decide : (3 : Nat) ≠ 6)); ⟨e1, e2', x', y', t', fun h' => f' (kp h' (by decide : (3 : Nat) ≠ 8))⟩), (fun h => by rw [getD_set_ne true (by decide)]; exact c8 (kp h (by decide : (3 : Nat) ≠ 8))), (fun h => let ⟨e1, e2', x', y', t', f'⟩ := g7 (kp h (by decide : (3 : Nat) ≠ 7)); ⟨e1, e2', x', y', t', fun h' => f' (kp h' (by decide : (3 : Nat) ≠ 9))⟩), (fun h => by rw [getD_set_ne true (by decide)]; exact c9 (kp h (by decide : (3 : Nat) ≠ 9))), (fun h h' => d10x11 (kp h (by decide : (3 : Nat) ≠ 6)) (kp h' (by decide : (3 : Nat) ≠ 7)))⟩
            · obtain rfl := Option.some.inj ho
              refine wpOp_step rfl (fun K hK => ?_)
              go_simp
              refine hK _ _ ?_
              exact ⟨z32, z33, z34, z35, _, z37, p10, p11, b10, b11, rfl, hB, (fun h => h0 (kp h (by decide : (4 : Nat) ≠ 0))), (fun h => h1 (kp h (by decide : (4 : Nat) ≠ 1))), (fun h => h2 (kp h (by decide : (4 : Nat) ≠ 2))), (fun h => h3 (kp h (by decide : (4 : Nat) ≠ 3))), (fun _ => rfl), (fun h => h5 (kp h (by decide : (4 : Nat) ≠ 5))), (fun h => let ⟨e1, e2', x', y', t', f'⟩ := g6 (kp h (by decide : (4 : Nat) ≠ 6)); ⟨e1, e2', x', y', t', fun h' => f' (kp h' (by decide : (4 : Nat) ≠ 8))⟩), (fun h => by rw [getD_set_ne true (by decide)]; exact c8 (kp h (by decide : (4 : Nat) ≠ 8))), (fun h => let ⟨e1, e2', x', y', t', f'⟩ := g7 (kp h (by decide : (4 : Nat) ≠ 7)); ⟨e1, e2', x', y', t', fun h' => f' (kp h' (by decide : (4 : Nat) ≠ 9))⟩), (fun h => by rw [getD_set_ne true (by decide)]; exact c9 (kp h (by decide : (4 : Nat) ≠ 9))), (fun h h' => d10x11 (kp h (by decide : (4 : Nat) ≠ 6)) (kp h' (by decide : (4 : Nat) ≠ 7)))⟩
            · obtain rfl := Option.some.inj ho
              have D3 := tf (hdep ⟨3, .data⟩ (by simp) rfl)
              have D4 := tf (hdep ⟨4, .data⟩ (by simp) rfl)
              obtain rfl := h3 D3
              obtain rfl := h4 D4
              refine wpOp_step rfl (fun K hK => ?_)
              go_simp
              refine (to_any u v c d _ hp3 hp2).mono ?_
              rintro e wn ⟨rfl, hbn⟩
              dsimp only
              refine hK _ _ ?_
              exact ⟨z32, z33, z34, _, _, _, p10, p11, b10, b11, rfl, below_chain hB hbn hB.size, (fun h => h0 (kp h (by decide : (5 : Nat) ≠ 0))), (fun h => h1 (kp h (by decide : (5 : Nat) ≠ 1))), (fun h => h2 (kp h (by decide : (5 : Nat) ≠ 2))), (fun _ => rfl), (fun _ => rfl), (fun _ => rfl), (fun h => let ⟨e1, e2', x', y', t', f'⟩ := g6 (kp h (by decide : (5 : Nat) ≠ 6)); ⟨e1, e2', x', y', t'.below hbn, fun h' => f' (kp h' (by decide : (5 : Nat) ≠ 8))⟩), (fun h => by rw [getD_set_ne true (by decide)]; exact c8 (kp h (by decide : (5 : Nat) ≠ 8))), (fun h => let ⟨e1, e2', x', y', t', f'⟩ := g7 (kp h (by decide : (5 : Nat) ≠ 7)); ⟨e1, e2', x', y', t'.below hbn, fun h' => f' (kp h' (by decide : (5 : Nat) ≠ 9))⟩), (fun h => by rw [getD_set_ne true (by decide)]; exact c9 (kp h (by decide : (5 : Nat) ≠ 9))), (fun h h' => d10x11 (kp h (by decide : (5 : Nat) ≠ 6)) (kp h' (by decide : (5 : Nat) ≠ 7)))⟩
            · obtain rfl := Option.some.inj ho
              refine wpOp_step rfl (fun K hK => ?_)
              go_simp
              refine hK _ _ ?_
              exact ⟨z32, z33, z34, z35, z36, z37, _, p11, _, b11, rfl, hB.alloc hB.size _, (fun h => h0 (kp h (by decide : (6 : Nat) ≠ 0))), (fun h => h1 (kp h (by decide : (6 : Nat) ≠ 1))), (fun h => h2 (kp h (by decide : (6 : Nat) ≠ 2))), (fun h => h3 (kp h (by decide : (6 : Nat) ≠ 3))), (fun h => h4 (kp h (by decide : (6 : Nat) ≠ 4))), (fun h => h5 (kp h (by decide : (6 : Nat) ≠ 5))), (fun _ => ⟨rfl, hB.size, 0, 0, Two.new _ _ _, fun h => absurd (c8 (kp h (by decide : (6 : Nat) ≠ 8))) (by rw [hun]; decide)⟩), (fun _ => getD_set_self _ _), (fun h => let ⟨e1, e2', x', y', t', f'⟩ := g7 (kp h (by decide : (6 : Nat) ≠ 7)); ⟨e1, e2', x', y', t'.below ((Below.refl _ _).alloc (Nat.le_refl _) _), fun h' => f' (kp h' (by decide : (6 : Nat) ≠ 9))⟩), (fun h => by rw [getD_set_ne true (by decide)]; exact c9 (kp h (by decide : (6 : Nat) ≠ 9))), (fun _ h => by obtain ⟨_, _, x, y, t, _⟩ := g7 (kp h (by decide : (6 : Nat) ≠ 7)); have := t.lt; omega)⟩
            · obtain rfl := Option.some.inj ho
              refine wpOp_step rfl (fun K hK => ?_)
              go_simp
              refine hK _ _ ?_
              exact ⟨z32, z33, z34, z35, z36, z37, p10, _, b10, _, rfl, hB.alloc hB.size _, (fun h => h0 (kp h (by decide : (7 : Nat) ≠ 0))), (fun h => h1 (kp h (by decide : (7 : Nat) ≠ 1))), (fun h => h2 (kp h (by decide : (7 : Nat) ≠ 2))), (fun h => h3 (kp h (by decide : (7 : Nat) ≠ 3))), (fun h => h4 (kp h (by decide : (7 : Nat) ≠ 4))), (fun h => h5 (kp h (by decide : (7 : Nat) ≠ 5))), (fun h => let ⟨e1, e2', x', y', t', f'⟩ := g6 (kp h (by decide : (7 : Nat) ≠ 6)); ⟨e1, e2', x', y', t'.below ((Below.refl _ _).alloc (Nat.le_refl _) _), fun h' => f' (kp h' (by decide : (7 : Nat) ≠ 8))⟩), (fun h => by rw [getD_set_ne true (by decide)]; exact c8 (kp h (by decide : (7 : Nat) ≠ 8))), (fun _ => ⟨rfl, hB.size, 0, 0, Two.new _ _ _, fun h => absurd (c9 (kp h (by decide : (7 : Nat) ≠ 9))) (by rw [hun]; decide)⟩), (fun _ => getD_set_self _ _), (fun h _ => by obtain ⟨_, _, x, y, t, _⟩ := g6 (kp h (by decide : (7 : Nat) ≠ 6)); have := t.lt; omega)⟩
            · obtain rfl := Option.some.inj ho
              have D6 := tf (hdep ⟨6, .data⟩ (by simp) rfl)
              have D2 := tf (hdep ⟨2, .data⟩ (by simp) rfl)
              obtain ⟨rfl, e2, x, y, t, f⟩ := g6 D6
              obtain rfl := h2 D2
              have t0 := t.c0
              have t1 := t.c1
              have t2 := t.f0
              have t3 := t.f1
              refine wpOp_step rfl (fun K hK => ?_)
              go_simp
              refine hK _ _ ?_
              exact ⟨z32, z33, _, z35, z36, z37, _, p11, b10, b11, rfl, (hB.setCell (p := ⟨b10, 0, none⟩) e2 _).setCell (p := ⟨b10, 1, none⟩) e2 _, (fun h => h0 (kp h (by decide : (8 : Nat) ≠ 0))), (fun h => h1 (kp h (by decide : (8 : Nat) ≠ 1))), (fun _ => rfl), (fun h => h3 (kp h (by decide : (8 : Nat) ≠ 3))), (fun h => h4 (kp h (by decide : (8 : Nat) ≠ 4))), (fun h => h5 (kp h (by decide : (8 : Nat) ≠ 5))), (fun _ => ⟨rfl, e2, _, _, t.set _ _, fun _ => ⟨rfl, rfl⟩⟩), (fun _ => by rw [getD_set_ne true (by decide)]; exact D6), (fun h => let ⟨e1, e2', x', y', t', f'⟩ := g7 (kp h (by decide : (8 : Nat) ≠ 7)); ⟨e1, e2', x', y', (t'.other (Ne.symm (d10x11 D6 (kp h (by decide : (8 : Nat) ≠ 7)))) _).other (Ne.symm (d10x11 D6 (kp h (by decide : (8 : Nat) ≠ 7)))) _, fun h' => f' (kp h' (by decide : (8 : Nat) ≠ 9))⟩), (fun h => by rw [getD_set_ne true (by decide)]; exact c9 (kp h (by decide : (8 : Nat) ≠ 9))), (fun h h' => d10x11 (kp h (by decide : (8 : Nat) ≠ 6)) (kp h' (by decide : (8 : Nat) ≠ 7)))⟩
            · obtain rfl := Option.some.inj ho
              have D7 := tf (hdep ⟨7, .data⟩ (by simp) rfl)
              have D5 := tf (hdep ⟨5, .data⟩ (by simp) rfl)
              obtain ⟨rfl, e2, x, y, t, f⟩ := g7 D7
              obtain rfl := h5 D5
              have t0 := t.c0
              have t1 := t.c1
              have t2 := t.f0
              have t3 := t.f1
              refine wpOp_step rfl (fun K hK => ?_)
              go_simp
              refine hK _ _ ?_
              exact ⟨z32, z33, z34, z35, z36, _, p10, _, b10, b11, rfl, (hB.setCell (p := ⟨b11, 0, none⟩) e2 _).setCell (p := ⟨b11, 1, none⟩) e2 _, (fun h => h0 (kp h (by decide : (9 : Nat) ≠ 0))), (fun h => h1 (kp h (by decide : (9 : Nat) ≠ 1))), (fun h => h2 (kp h (by decide : (9 : Nat) ≠ 2))), (fun h => h3 (kp h (by decide : (9 : Nat) ≠ 3))), (fun h => h4 (kp h (by decide : (9 : Nat) ≠ 4))), (fun _ => rfl), (fun h => let ⟨e1, e2', x', y', t', f'⟩ := g6 (kp h (by decide : (9 : Nat) ≠ 6)); ⟨e1, e2', x', y', (t'.other (d10x11 (kp h (by decide : (9 : Nat) ≠ 6)) D7) _).other (d10x11 (kp h (by decide : (9 : Nat) ≠ 6)) D7) _, fun h' => f' (kp h' (by decide : (9 : Nat) ≠ 8))⟩), (fun h => by rw [getD_set_ne true (by decide)]; exact c8 (kp h (by decide : (9 : Nat) ≠ 8))), (fun _ => ⟨rfl, e2, _, _, t.set _ _, fun _ => ⟨rfl, rfl⟩⟩), (fun _ => by rw [getD_set_ne true (by decide)]; exact D7), (fun h h' => d10x11 (kp h (by decide : (9 : Nat) ≠ 6)) (kp h' (by decide : (9 : Nat) ≠ 7)))⟩
          · intro L a' wx hI hall
            obtain ⟨z32, z33, z34, z35, z36, z37, p10, p11, b10, b11, rfl, hB, h0, h1, h2, h3, h4, h5, g6, c8, g7, c9, d10x11⟩ := hI
            obtain ⟨rfl, e10, x10, y10, r10, f10⟩ := g6 (hall 6 (by decide))
            obtain ⟨rfl, rfl⟩ := f10 (hall 8 (by decide))
            obtain ⟨rfl, e11, x11, y11, r11, f11⟩ := g7 (hall 7 (by decide))
            obtain ⟨rfl, rfl⟩ := f11 (hall 9 (by decide))
            clear h0 h1 h2 h3 h4 h5 g6 c8 f10 g7 c9 f11 d10x11 hall
            dsimp only
            go_wp2_with fail
            go_meet
            exact ⟨rfl, ⟨_, _, rfl, rfl, r10, r11⟩, below_chain kB hB kB.size⟩
        case rest =>
          obtain ⟨rfl, ⟨D, E, rfl, rfl, r1, r2⟩, kB2⟩ := hcut
          have a0 := r1.c0
          have a1 := r1.c1
          have b0 := r2.c0
          have b1 := r2.c1
          have z1 := r1.lt
          have z2 := r2.lt
          have kz := kB2.size
          clear h hp1 hp2 hp3 t7 t8 t9
          generalize Pt.cr (a - u) (b - v) (c - u) (d - v) = X at *
          generalize Pt.dt (a - u) (b - v) (c - u) (d - v) = Y at *
          by_cases hX : X = 0
          · subst hX
            go_wp2_with (first | (go_at_call 108; (with_reducible refine ((cc _).out).mono ?_); rintro e w5 ⟨rfl, hbn⟩; obtain ⟨hcn, hfn⟩ := bcell hbn; (try simp only [World.size_drew, World.cell?_drew, World.frozen?_drew, World.heap_drewN, World.cell?_drewN, World.frozen?_drewN] at hcn hfn); have hsz := hbn.size; (try simp at hsz); (try have hsl := Nat.lt_of_succ_le hsz); (try have hz0 : D < w5.heap.size := (by have := hbn.size; (try simp at this); omega)); (try have hz1 : E < w5.heap.size := (by have := hbn.size; (try simp at this); omega))) | (go_at_call 142; (with_reducible refine ((cd _).out).mono ?_); rintro e w6 ⟨rfl, hbn⟩; obtain ⟨hcn, hfn⟩ := bcell hbn; (try simp only [World.size_drew, World.cell?_drew, World.frozen?_drew, World.heap_drewN, World.cell?_drewN, World.frozen?_drewN] at hcn hfn); have hsz := hbn.size; (try simp at hsz); (try have hsl := Nat.lt_of_succ_le hsz); (try have hz0 : D < w6.heap.size := (by have := hbn.size; (try simp at this); omega)); (try have hz1 : E < w6.heap.size := (by have := hbn.size; (try simp at this); omega)); (try have hz2 : w5.heap.size < w6.heap.size := (by have := hbn.size; (try simp at this); omega))))
            go_ret
            exact ⟨ret_bool (by have := H.out; simpa using this), (by repeat (first | assumption | exact Below.refl _ _ | (refine below_chain ?_ (by assumption) (by first | omega | (simp <;> omega) | simp)) | (refine Below.alloc ?_ (by first | omega | (simp <;> omega) | simp) _) | (apply below_drewN) | (apply below_drew) | (refine Below.setCell ?_ (by first | omega | (simp <;> omega) | simp) _)))⟩
          · have hX' : (X == 0) = false := by simpa using hX
            go_wp2_with (first | (go_at_call 108; (with_reducible refine ((cc _).out).mono ?_); rintro e w5 ⟨rfl, hbn⟩; obtain ⟨hcn, hfn⟩ := bcell hbn; (try simp only [World.size_drew, World.cell?_drew, World.frozen?_drew, World.heap_drewN, World.cell?_drewN, World.frozen?_drewN] at hcn hfn); have hsz := hbn.size; (try simp at hsz); (try have hsl := Nat.lt_of_succ_le hsz); (try have hz0 : D < w5.heap.size := (by have := hbn.size; (try simp at this); omega)); (try have hz1 : E < w5.heap.size := (by have := hbn.size; (try simp at this); omega))) | (go_at_call 142; (with_reducible refine ((cd _).out).mono ?_); rintro e w6 ⟨rfl, hbn⟩; obtain ⟨hcn, hfn⟩ := bcell hbn; (try simp only [World.size_drew, World.cell?_drew, World.frozen?_drew, World.heap_drewN, World.cell?_drewN, World.frozen?_drewN] at hcn hfn); have hsz := hbn.size; (try simp at hsz); (try have hsl := Nat.lt_of_succ_le hsz); (try have hz0 : D < w6.heap.size := (by have := hbn.size; (try simp at this); omega)); (try have hz1 : E < w6.heap.size := (by have := hbn.size; (try simp at this); omega)); (try have hz2 : w5.heap.size < w6.heap.size := (by have := hbn.size; (try simp at this); omega))))
            go_ret
            exact ⟨ret_bool (by have := H.out; simpa [hX] using this), (by repeat (first | assumption | exact Below.refl _ _ | (refine below_chain ?_ (by assumption) (by first | omega | (simp <;> omega) | simp)) | (refine Below.alloc ?_ (by first | omega | (simp <;> omega) | simp) _) | (apply below_drewN) | (apply below_drew) | (refine Below.setCell ?_ (by first | omega | (simp <;> omega) | simp) _)))⟩
end Go.Proofs.Ytgncjpakclbegaa
namespace Go.Proofs.Ytgncjpakclbegaa
open Go.RowKit
set_option linter.unusedVariables false

def sideV (a b c d u v : Int) : Int := if three a b c d u v then (if Pt.cr (c - a) (d - b) (u - a) (v - b) < 0 then -1 else if 0 < Pt.cr (c - a) (d - b) (u - a) (v - b) then 1 else 0) else 0
theorem iSide_any (a b c d u v : Int) (w : World) :
    Calls Try.prog 132 #[.agg #[.int .i64 a, .int .i64 b], .agg #[.int .i64 c, .int .i64 d], .agg #[.int .i64 u, .int .i64 v]] w fun e w' => e = .returned (.tuple #[.int .i64 (sideV a b c d u v), .bool (three a b c d u v)]) ∧ Below w.heap.size w w' := by
  by_cases h : three a b c d u v = true
  · rw [h]; exact iSide_yes a b c d u v _ w h (by unfold sideV; simp [h])
  · have h' : three a b c d u v = false := by simpa using h
    have e : sideV a b c d u v = 0 := by unfold sideV; simp [h']
    rw [h', e]; exact iSide_no a b c d u v w h'
end Go.Proofs.Ytgncjpakclbegaa
namespace Go.Proofs.Ytgncjpakclbegaa
open Go.RowKit
set_option linter.unusedVariables false

def onV (a b c d u v : Int) : Bool := three a b c d u v && Pt.onB a b c d u v
theorem iOn_any (a b c d u v : Int) (w : World) :
    Calls Try.prog 131 #[.agg #[.int .i64 a, .int .i64 b], .agg #[.int .i64 c, .int .i64 d], .agg #[.int .i64 u, .int .i64 v]] w fun e w' => e = .returned (.bool (onV a b c d u v)) ∧ Below w.heap.size w w' := by
  by_cases h : three a b c d u v = true
  · exact iOn_yes a b c d u v _ w h (by unfold onV; simp [h])
  · have h' : three a b c d u v = false := by simpa using h
    have e : onV a b c d u v = false := by unfold onV; simp [h']
    rw [e]; exact iOn_no a b c d u v w h'
end Go.Proofs.Ytgncjpakclbegaa
