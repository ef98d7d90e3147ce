/-
  What the reference model's functions on points answer, as functions on coordinates.
-/
import Derived.Test.YtegcjdcinebleaaQz
import Derived.Test.YtegcjdcinebleaaPMath
import Derived.Deep.RegionHeld3
import Derived.Deep.DeepCutAuto
namespace Go.Proofs.Ytegcjdcinebleaa
open Go.RowKit
set_option linter.unusedVariables false

theorem in_is (n l h : Int) (b : Bool) (w : World) (hb : decide (l ≤ n ∧ n ≤ h) = b) :
    Calls Try.prog 86 #[.int .i64 n, .int .i64 l, .int .i64 h] w fun e w' => e = .returned (.bool b) ∧ w = w' := by
  subst hb
  by_cases h1 : l ≤ n ∧ n ≤ h
  · simp only [h1, and_self, decide_true]; exact in_yes n l h w h1.1 h1.2
  · have := in_no n l h w (by omega)
    simpa [h1] using this
theorem spv_any (x y : Int) (w : World) :
    Calls Try.prog 103 #[.agg #[.int .i64 x, .int .i64 y]] w fun e w' => e = .returned (.bool (Pt.pv x y)) ∧ Below w.heap.size w w' := by
  have e : Pt.pv x y = (decide (-10000 ≤ x ∧ x ≤ 10000) && decide (-10000 ≤ y ∧ y ≤ 10000)) := by unfold Pt.pv; rw [← Bool.decide_and]; apply decide_eq_decide.2; omega
  rw [e]
  obtain ⟨p, hp⟩ : ∃ p, decide (-10000 ≤ x ∧ x ≤ 10000) = p := ⟨_, rfl⟩
  obtain ⟨q, hq⟩ : ∃ q, decide (-10000 ≤ y ∧ y ≤ 10000) = q := ⟨_, rfl⟩
  rw [hp, hq]
  have c1 := fun w => Lib.hid (in_is x _ _ p w hp)
  have c2 := fun w => Lib.hid (in_is y _ _ q w hq)
  clear e hp hq
  cases p <;> cases q
  all_goals
    go_enter Try.func103, Try.ntmps103
    go_wp2_with (first | (go_at_call 86; (with_reducible refine ((c1 _).out).mono ?_); rintro e w' ⟨rfl, rfl⟩) | (go_at_call 86; (with_reducible refine ((c2 _).out).mono ?_); rintro e w' ⟨rfl, rfl⟩))
    go_ret
    exact ⟨rfl, (by repeat (first | assumption | exact Below.refl _ _ | (refine below_chain ?_ (by assumption) (by first | omega | (simp <;> omega) | simp)) | (refine Below.alloc ?_ (by first | omega | (simp <;> omega) | simp) _) | (apply below_drewN) | (apply below_drew) | (refine Below.setCell ?_ (by first | omega | (simp <;> omega) | simp) _)))⟩
theorem spv_is (x y : Int) (b : Bool) (w : World) (h : Pt.pv x y = b) :
    Calls Try.prog 103 #[.agg #[.int .i64 x, .int .i64 y]] w fun e w' => e = .returned (.bool b) ∧ Below w.heap.size w w' := by
  rw [← h]; exact spv_any x y w
theorem l2Step_any (a b c d : Int) (w : World) (h1 : Pt.pv a b = true) (h2 : Pt.pv c d = true) :
    Calls Try.prog 105 #[.agg #[.int .i64 a, .int .i64 b], .agg #[.int .i64 c, .int .i64 d]] w fun e w' => e = .returned (.agg #[.int .i64 (c - a), .int .i64 (d - b)]) ∧ Below w.heap.size w w' := by
  obtain ⟨p1, p2, p3, p4⟩ := Pt.pv_true h1
  obtain ⟨q1, q2, q3, q4⟩ := Pt.pv_true h2
  clear h1 h2
  go_enter Try.func105, Try.ntmps105
  go_wp2
  exact bodyPost_ret (v := .agg #[.int .i64 (c - a), .int .i64 (d - b)]) (by simp [results, Try.results105, go_sem]) rfl ⟨rfl, (by repeat (first | assumption | exact Below.refl _ _ | (refine below_chain ?_ (by assumption) (by first | omega | (simp <;> omega) | simp)) | (refine Below.alloc ?_ (by first | omega | (simp <;> omega) | simp) _) | (apply below_drewN) | (apply below_drew) | (refine Below.setCell ?_ (by first | omega | (simp <;> omega) | simp) _)))⟩
theorem l2Cross_any (a b c d : Int) (w : World) (h1 : Pt.sv a b = true) (h2 : Pt.sv c d = true) :
    Calls Try.prog 104 #[.agg #[.int .i64 a, .int .i64 b], .agg #[.int .i64 c, .int .i64 d]] w fun e w' => e = .returned (.int .i64 (Pt.cr a b c d)) ∧ Below w.heap.size w w' := by
  obtain ⟨p1, p2, p3, p4⟩ := Pt.sv_true h1
  obtain ⟨q1, q2, q3, q4⟩ := Pt.sv_true h2
  clear h1 h2
  obtain ⟨r1, r2⟩ := Pt.mul_bd p1 p2 q3 q4
  obtain ⟨s1, s2⟩ := Pt.mul_bd p3 p4 q1 q2
  unfold Pt.cr
  go_enter Try.func104, Try.ntmps104
  go_wp2
  go_ret
  exact ⟨rfl, (by repeat (first | assumption | exact Below.refl _ _ | (refine below_chain ?_ (by assumption) (by first | omega | (simp <;> omega) | simp)) | (refine Below.alloc ?_ (by first | omega | (simp <;> omega) | simp) _) | (apply below_drewN) | (apply below_drew) | (refine Below.setCell ?_ (by first | omega | (simp <;> omega) | simp) _)))⟩
theorem psign_any (n : Int) (w : World) :
    Calls Try.prog 79 #[.int .i64 n] w fun e w' => e = .returned (.int .i64 (if n < 0 then -1 else if 0 < n then 1 else 0)) ∧ w = w' := by
  go_enter Try.func79, Try.ntmps79
  go_wp2
  all_goals go_ret
  all_goals exact ⟨ret_int (by omega), rfl⟩
theorem sign_is (n s : Int) (w : World) (h : (if n < 0 then -1 else if 0 < n then 1 else 0) = s) :
    Calls Try.prog 79 #[.int .i64 n] w fun e w' => e = .returned (.int .i64 s) ∧ w = w' := by
  rw [← h]; exact psign_any n w

def both' (a b c d : Int) : Bool := Pt.pv a b && Pt.pv c d
theorem sStep_is (a b c d : Int) (p q : Bool) (w : World) (hp : Pt.pv a b = p) (hq : Pt.pv c d = q) :
    Calls Try.prog 120 #[.agg #[.int .i64 a, .int .i64 b], .agg #[.int .i64 c, .int .i64 d]] w fun e w' => e = .returned (.tuple #[.agg #[.int .i64 (if p && q then c - a else 0), .int .i64 (if p && q then d - b else 0)], .bool (p && q)]) ∧ Below w.heap.size w w' := by
  have c1 := fun w => Lib.hid (spv_is a b p w hp)
  have c2 := fun w => Lib.hid (spv_is c d q w hq)
  by_cases hh : p = true ∧ q = true
  · obtain ⟨rfl, rfl⟩ := hh
    have ct := fun w => Lib.hid (l2Step_any a b c d w hp hq)
    clear hp hq
    go_enter Try.func120, Try.ntmps120
    go_wp2_with (first | (go_at_call 103; (with_reducible refine ((c1 _).out).mono ?_); rintro e wn ⟨rfl, hbn⟩; obtain ⟨hcn, hfn⟩ := bcell hbn; (try simp only [World.size_drew, World.cell?_drew, World.frozen?_drew, World.heap_drewN, World.cell?_drewN, World.frozen?_drewN] at hcn hfn); have hsz := hbn.size; (try simp at hsz); (try have hsl := Nat.lt_of_succ_le hsz); (try have hz0 : w.heap.size < wn.heap.size := (by have := hbn.size; (try simp at this); omega)); (try have hz1 : w.heap.size + 1 < wn.heap.size := (by have := hbn.size; (try simp at this); omega)); (try have hz2 : w.heap.size + 1 + 1 < wn.heap.size := (by have := hbn.size; (try simp at this); omega))) | (go_at_call 103; (with_reducible refine ((c2 _).out).mono ?_); rintro e wm ⟨rfl, hbn⟩; obtain ⟨hcn, hfn⟩ := bcell hbn; (try simp only [World.size_drew, World.cell?_drew, World.frozen?_drew, World.heap_drewN, World.cell?_drewN, World.frozen?_drewN] at hcn hfn); have hsz := hbn.size; (try simp at hsz); (try have hsl := Nat.lt_of_succ_le hsz); (try have hz0 : w.heap.size < wm.heap.size := (by have := hbn.size; (try simp at this); omega)); (try have hz1 : w.heap.size + 1 < wm.heap.size := (by have := hbn.size; (try simp at this); omega)); (try have hz2 : w.heap.size + 1 + 1 < wm.heap.size := (by have := hbn.size; (try simp at this); omega))) | (go_at_call 105; (with_reducible refine ((ct _).out).mono ?_); rintro e wt ⟨rfl, hbn⟩; obtain ⟨hcn, hfn⟩ := bcell hbn; (try simp only [World.size_drew, World.cell?_drew, World.frozen?_drew, World.heap_drewN, World.cell?_drewN, World.frozen?_drewN] at hcn hfn); have hsz := hbn.size; (try simp at hsz); (try have hsl := Nat.lt_of_succ_le hsz); (try have hz0 : w.heap.size < wt.heap.size := (by have := hbn.size; (try simp at this); omega)); (try have hz1 : w.heap.size + 1 < wt.heap.size := (by have := hbn.size; (try simp at this); omega)); (try have hz2 : w.heap.size + 1 + 1 < wt.heap.size := (by have := hbn.size; (try simp at this); omega))))
    exact bodyPost_ret (v := .tuple #[.agg #[.int .i64 (c - a), .int .i64 (d - b)], .bool true]) (by simp [results, Try.results120, go_sem, *]) rfl ⟨rfl, (by repeat (first | assumption | exact Below.refl _ _ | (refine below_chain ?_ (by assumption) (by first | omega | (simp <;> omega) | simp)) | (refine Below.alloc ?_ (by first | omega | (simp <;> omega) | simp) _) | (apply below_drewN) | (apply below_drew) | (refine Below.setCell ?_ (by first | omega | (simp <;> omega) | simp) _)))⟩
  · clear hp hq
    cases p <;> cases q
    case true.true => exact absurd ⟨rfl, rfl⟩ hh
    all_goals
      clear hh
      go_enter Try.func120, Try.ntmps120
      go_wp2_with (first | (go_at_call 103; (with_reducible refine ((c1 _).out).mono ?_); rintro e wn ⟨rfl, hbn⟩; obtain ⟨hcn, hfn⟩ := bcell hbn; (try simp only [World.size_drew, World.cell?_drew, World.frozen?_drew, World.heap_drewN, World.cell?_drewN, World.frozen?_drewN] at hcn hfn); have hsz := hbn.size; (try simp at hsz); (try have hsl := Nat.lt_of_succ_le hsz); (try have hz0 : w.heap.size < wn.heap.size := (by have := hbn.size; (try simp at this); omega)); (try have hz1 : w.heap.size + 1 < wn.heap.size := (by have := hbn.size; (try simp at this); omega)); (try have hz2 : w.heap.size + 1 + 1 < wn.heap.size := (by have := hbn.size; (try simp at this); omega))) | (go_at_call 103; (with_reducible refine ((c2 _).out).mono ?_); rintro e wm ⟨rfl, hbn⟩; obtain ⟨hcn, hfn⟩ := bcell hbn; (try simp only [World.size_drew, World.cell?_drew, World.frozen?_drew, World.heap_drewN, World.cell?_drewN, World.frozen?_drewN] at hcn hfn); have hsz := hbn.size; (try simp at hsz); (try have hsl := Nat.lt_of_succ_le hsz); (try have hz0 : w.heap.size < wm.heap.size := (by have := hbn.size; (try simp at this); omega)); (try have hz1 : w.heap.size + 1 < wm.heap.size := (by have := hbn.size; (try simp at this); omega)); (try have hz2 : w.heap.size + 1 + 1 < wm.heap.size := (by have := hbn.size; (try simp at this); omega))))
      exact bodyPost_ret (v := .tuple #[.agg #[.int .i64 0, .int .i64 0], .bool false]) (by simp [results, Try.results120, go_sem, *]) rfl ⟨rfl, (by repeat (first | assumption | exact Below.refl _ _ | (refine below_chain ?_ (by assumption) (by first | omega | (simp <;> omega) | simp)) | (refine Below.alloc ?_ (by first | omega | (simp <;> omega) | simp) _) | (apply below_drewN) | (apply below_drew) | (refine Below.setCell ?_ (by first | omega | (simp <;> omega) | simp) _)))⟩
theorem sGaps_no (a b c d : Int) (p q : Bool) (w : World) (hp : Pt.pv a b = p) (hq : Pt.pv c d = q) (h : (p && q) = false) :
    Calls Try.prog 107 #[.agg #[.int .i64 a, .int .i64 b], .agg #[.int .i64 c, .int .i64 d]] w fun e w' => e = .returned (.int .i64 (-1)) ∧ Below w.heap.size w w' := by
  have c1 := fun w => Lib.hid (sStep_is a b c d p q w hp hq)
  rw [h] at c1
  clear hp hq h
  go_enter Try.func107, Try.ntmps107
  go_wp2_with ((go_at_call 120; (with_reducible refine ((c1 _).out).mono ?_); rintro e wn ⟨rfl, hbn⟩; obtain ⟨hcn, hfn⟩ := bcell hbn; (try simp only [World.size_drew, World.cell?_drew, World.frozen?_drew, World.heap_drewN, World.cell?_drewN, World.frozen?_drewN] at hcn hfn); have hsz := hbn.size; (try simp at hsz); (try have hsl := Nat.lt_of_succ_le hsz); (try have hz0 : w.heap.size < wn.heap.size := (by have := hbn.size; (try simp at this); omega)); (try have hz1 : w.heap.size + 1 < wn.heap.size := (by have := hbn.size; (try simp at this); omega)); (try have hz2 : w.heap.size + 1 + 1 < wn.heap.size := (by have := hbn.size; (try simp at this); omega))))
  go_ret
  exact ⟨rfl, (by repeat (first | assumption | exact Below.refl _ _ | (refine below_chain ?_ (by assumption) (by first | omega | (simp <;> omega) | simp)) | (refine Below.alloc ?_ (by first | omega | (simp <;> omega) | simp) _) | (apply below_drewN) | (apply below_drew) | (refine Below.setCell ?_ (by first | omega | (simp <;> omega) | simp) _)))⟩
set_option maxRecDepth 100000 in
theorem sGaps_yes (a b c d : Int) (w : World) (hp : Pt.pv a b = true) (hq : Pt.pv c d = true) :
    Calls Try.prog 107 #[.agg #[.int .i64 a, .int .i64 b], .agg #[.int .i64 c, .int .i64 d]] w fun e w' => e = .returned (.int .i64 (Int.gcd (c - a) (d - b))) ∧ Below w.heap.size w w' := by
  have c1 := fun w => Lib.hid (sStep_is a b c d true true w hp hq)
  obtain ⟨p1, p2, p3, p4⟩ := Pt.sv_true (Pt.sv_of hp hq)
  have e : ((c - a).natAbs : Int).gcd ((d - b).natAbs : Int) = Int.gcd (c - a) (d - b) := by simp [Int.gcd]
  rw [← e]
  have c2 := fun w => Lib.hid (size_any (c - a) w (by omega) (by omega))
  have c3 := fun w => Lib.hid (size_any (d - b) w (by omega) (by omega))
  have c4 := fun w => Lib.hid (common_any ((c - a).natAbs : Int) ((d - b).natAbs : Int) w (by omega) (by omega) (by omega) (by omega))
  clear hp hq e p1 p2 p3 p4
  go_enter Try.func107, Try.ntmps107
  go_wp2_with ((go_at_call 120; (with_reducible refine ((c1 _).out).mono ?_); rintro e wn ⟨rfl, hbn⟩; obtain ⟨hcn, hfn⟩ := bcell hbn; (try simp only [World.size_drew, World.cell?_drew, World.frozen?_drew, World.heap_drewN, World.cell?_drewN, World.frozen?_drewN] at hcn hfn); have hsz := hbn.size; (try simp at hsz); (try have hsl := Nat.lt_of_succ_le hsz); (try have hz0 : w.heap.size < wn.heap.size := (by have := hbn.size; (try simp at this); omega)); (try have hz1 : w.heap.size + 1 < wn.heap.size := (by have := hbn.size; (try simp at this); omega)); (try have hz2 : w.heap.size + 1 + 1 < wn.heap.size := (by have := hbn.size; (try simp at this); omega))))
  go_quiet (first | (go_at_call 73; exact Calls.quiet_of_same ((c2 _).out.mono fun _ _ ⟨he, hw⟩ => ⟨he, hw.symm⟩)) | (go_at_call 73; exact Calls.quiet_of_same ((c3 _).out.mono fun _ _ ⟨he, hw⟩ => ⟨he, hw.symm⟩)) | (go_at_call 115; exact Calls.quiet_of_same ((c4 _).out.mono fun _ _ ⟨he, hw⟩ => ⟨he, hw.symm⟩)))
  go_wp2
  go_ret
  exact ⟨rfl, (by repeat (first | assumption | exact Below.refl _ _ | (refine below_chain ?_ (by assumption) (by first | omega | (simp <;> omega) | simp)) | (refine Below.alloc ?_ (by first | omega | (simp <;> omega) | simp) _) | (apply below_drewN) | (apply below_drew) | (refine Below.setCell ?_ (by first | omega | (simp <;> omega) | simp) _)))⟩
end Go.Proofs.Ytegcjdcinebleaa
