/-
  For every code the law FnPointSide returns true: the side of a third point is the same for the points begun at the second one, the opposite for the first two exchanged, and none for the first point itself. No condition: every list of bytes is taken.
-/
import Derived.Test.YtllpcbbomcmpbaaDPt4
import Derived.Test.YtllpcbbomcmpbaaCode
import Derived.Test.YtllpcbbomcmpbaaPx
namespace Go.Proofs.Ytllpcbbomcmpbaa.fnPointSide
open Go.ChangeShapes Go.WideShapes Go.ChangeAt Go.RowKit
set_option linter.unusedVariables false

theorem turn (a b c d u v : Int) : Pt.cr (u - c) (v - d) (a - c) (b - d) = Pt.cr (c - a) (d - b) (u - a) (v - b) := by unfold Pt.cr; grind
theorem swap (a b c d u v : Int) : Pt.cr (a - c) (b - d) (u - c) (v - d) = - Pt.cr (c - a) (d - b) (u - a) (v - b) := by unfold Pt.cr; grind
theorem noside (a b c d : Int) : Pt.cr (c - a) (d - b) (a - a) (b - b) = 0 := by unfold Pt.cr; simp
theorem three_mk {a b c d u v : Int} (h1 : Pt.pv a b = true) (h2 : Pt.pv c d = true) (h3 : Pt.pv u v = true) : three a b c d u v = true := by unfold three; simp [h1, h2, h3]

set_option maxRecDepth 100000 in
set_option maxHeartbeats 20000000 in
theorem walk (len cap : Nat) (p : Option Addr) (w : World) (hl : len ≤ 1048576) (h : Hid (Code' w (.slice p len cap))) :
    Calls Try.prog 4 #[.slice p len cap] w fun e w' => e = .returned (.bool true) ∧ Below w.heap.size w w' := by
  have hl' : ¬ (1048576 : Int) < (len : Int) := by omega
  go_enter Try.func4, Try.ntmps4
  go_wp2_with (go_at_call 20; (with_reducible refine (drawSide_any _ _ h).mono ?_); rintro e wd ⟨a, b, c, d, u, v, rfl, hbd⟩; obtain ⟨hcn, hfn⟩ := bcell hbd; have hsd := hbd.size)
  by_cases h3 : three a b c d u v = true
  · obtain ⟨p1, p2, p3⟩ := three_true h3
    have t1 := turn a b c d u v
    have t2 := swap a b c d u v
    have t3 := noside a b c d
    rcases Int.lt_trichotomy (Pt.cr (c - a) (d - b) (u - a) (v - b)) 0 with hx | hx | hx
    · have k1 := fun w => Lib.hid (iSide_yes a b c d u v (-1) w h3 (by rw [if_pos hx]))
      have k2 := fun w => Lib.hid (sSide_yes a b c d u v (-1) w p1 p2 p3 (by rw [if_pos hx]))
      have k3 := fun w => Lib.hid (iSide_yes c d u v a b (-1) w (three_mk p2 p3 p1) (by rw [t1, if_pos hx]))
      have k4 := fun w => Lib.hid (iSide_yes c d a b u v 1 w (three_mk p2 p1 p3) (by rw [t2, if_neg (by omega), if_pos (by omega)]))
      have k5 := fun w => Lib.hid (iSide_yes a b c d a b 0 w (three_mk p1 p2 p1) (by rw [t3]; rfl))
      clear h3 p1 p2 p3 t1 t2 t3 hx
      go_wp2_with (first | (go_at_call 21; (with_reducible refine ((k1 _).out).mono ?_); rintro e w1 ⟨rfl, hbn⟩; obtain ⟨hcn, hfn⟩ := bcell hbn; (try simp only [World.size_drew, World.cell?_drew, World.frozen?_drew] at hcn hfn); have hsz := hbn.size; (try simp at hsz); (try have hsl := Nat.lt_of_succ_le hsz); (try have hz0 : wd.heap.size < w1.heap.size := (by have := hbn.size; (try simp at this); omega)); (try have hz1 : wd.heap.size + 1 < w1.heap.size := (by have := hbn.size; (try simp at this); omega)); (try have hz2 : wd.heap.size + 1 + 1 < w1.heap.size := (by have := hbn.size; (try simp at this); omega))) | (go_at_call 22; (with_reducible refine ((k2 _).out).mono ?_); rintro e w2 ⟨rfl, hbn⟩; obtain ⟨hcn, hfn⟩ := bcell hbn; (try simp only [World.size_drew, World.cell?_drew, World.frozen?_drew] at hcn hfn); have hsz := hbn.size; (try simp at hsz); (try have hsl := Nat.lt_of_succ_le hsz); (try have hz0 : wd.heap.size < w2.heap.size := (by have := hbn.size; (try simp at this); omega)); (try have hz1 : wd.heap.size + 1 < w2.heap.size := (by have := hbn.size; (try simp at this); omega)); (try have hz2 : wd.heap.size + 1 + 1 < w2.heap.size := (by have := hbn.size; (try simp at this); omega)); (try have hz3 : w1.heap.size < w2.heap.size := (by have := hbn.size; (try simp at this); omega))) | (go_at_call 21; (with_reducible refine ((k3 _).out).mono ?_); rintro e w3 ⟨rfl, hbn⟩; obtain ⟨hcn, hfn⟩ := bcell hbn; (try simp only [World.size_drew, World.cell?_drew, World.frozen?_drew] at hcn hfn); have hsz := hbn.size; (try simp at hsz); (try have hsl := Nat.lt_of_succ_le hsz); (try have hz0 : wd.heap.size < w3.heap.size := (by have := hbn.size; (try simp at this); omega)); (try have hz1 : wd.heap.size + 1 < w3.heap.size := (by have := hbn.size; (try simp at this); omega)); (try have hz2 : wd.heap.size + 1 + 1 < w3.heap.size := (by have := hbn.size; (try simp at this); omega)); (try have hz3 : w1.heap.size < w3.heap.size := (by have := hbn.size; (try simp at this); omega)); (try have hz4 : w2.heap.size < w3.heap.size := (by have := hbn.size; (try simp at this); omega))) | (go_at_call 21; (with_reducible refine ((k4 _).out).mono ?_); rintro e w4 ⟨rfl, hbn⟩; obtain ⟨hcn, hfn⟩ := bcell hbn; (try simp only [World.size_drew, World.cell?_drew, World.frozen?_drew] at hcn hfn); have hsz := hbn.size; (try simp at hsz); (try have hsl := Nat.lt_of_succ_le hsz); (try have hz0 : wd.heap.size < w4.heap.size := (by have := hbn.size; (try simp at this); omega)); (try have hz1 : wd.heap.size + 1 < w4.heap.size := (by have := hbn.size; (try simp at this); omega)); (try have hz2 : wd.heap.size + 1 + 1 < w4.heap.size := (by have := hbn.size; (try simp at this); omega)); (try have hz3 : w1.heap.size < w4.heap.size := (by have := hbn.size; (try simp at this); omega)); (try have hz4 : w2.heap.size < w4.heap.size := (by have := hbn.size; (try simp at this); omega)); (try have hz5 : w3.heap.size < w4.heap.size := (by have := hbn.size; (try simp at this); omega))) | (go_at_call 21; (with_reducible refine ((k5 _).out).mono ?_); rintro e w5 ⟨rfl, hbn⟩; obtain ⟨hcn, hfn⟩ := bcell hbn; (try simp only [World.size_drew, World.cell?_drew, World.frozen?_drew] at hcn hfn); have hsz := hbn.size; (try simp at hsz); (try have hsl := Nat.lt_of_succ_le hsz); (try have hz0 : wd.heap.size < w5.heap.size := (by have := hbn.size; (try simp at this); omega)); (try have hz1 : wd.heap.size + 1 < w5.heap.size := (by have := hbn.size; (try simp at this); omega)); (try have hz2 : wd.heap.size + 1 + 1 < w5.heap.size := (by have := hbn.size; (try simp at this); omega)); (try have hz3 : w1.heap.size < w5.heap.size := (by have := hbn.size; (try simp at this); omega)); (try have hz4 : w2.heap.size < w5.heap.size := (by have := hbn.size; (try simp at this); omega)); (try have hz5 : w3.heap.size < w5.heap.size := (by have := hbn.size; (try simp at this); omega)); (try have hz6 : w4.heap.size < w5.heap.size := (by have := hbn.size; (try simp at this); omega))))
      go_ret
      exact ⟨rfl, (by repeat (first | with_reducible assumption | with_reducible exact Below.refl _ _ | (with_reducible refine below_chain ?_ (by with_reducible assumption) (by first | omega | (simp <;> omega) | simp)) | (with_reducible refine below_gb ?_ (by with_reducible assumption) (by first | omega | (simp <;> omega) | simp) (by first | omega | (simp <;> omega) | simp)) | (with_reducible refine Below.alloc ?_ (by first | omega | (simp <;> omega) | simp) _) | (with_reducible refine below_drewN ?_ _) | (with_reducible refine below_drew ?_) | (with_reducible refine Below.setCell ?_ (by first | omega | (simp <;> omega) | simp) _)))⟩
    · have k1 := fun w => Lib.hid (iSide_yes a b c d u v 0 w h3 (by rw [hx]; rfl))
      have k2 := fun w => Lib.hid (sSide_yes a b c d u v 0 w p1 p2 p3 (by rw [hx]; rfl))
      have k3 := fun w => Lib.hid (iSide_yes c d u v a b 0 w (three_mk p2 p3 p1) (by rw [t1, hx]; rfl))
      have k4 := fun w => Lib.hid (iSide_yes c d a b u v 0 w (three_mk p2 p1 p3) (by rw [t2, hx]; rfl))
      have k5 := fun w => Lib.hid (iSide_yes a b c d a b 0 w (three_mk p1 p2 p1) (by rw [t3]; rfl))
      clear h3 p1 p2 p3 t1 t2 t3 hx
      go_wp2_with (first | (go_at_call 21; (with_reducible refine ((k1 _).out).mono ?_); rintro e w1 ⟨rfl, hbn⟩; obtain ⟨hcn, hfn⟩ := bcell hbn; (try simp only [World.size_drew, World.cell?_drew, World.frozen?_drew] at hcn hfn); have hsz := hbn.size; (try simp at hsz); (try have hsl := Nat.lt_of_succ_le hsz); (try have hz0 : wd.heap.size < w1.heap.size := (by have := hbn.size; (try simp at this); omega)); (try have hz1 : wd.heap.size + 1 < w1.heap.size := (by have := hbn.size; (try simp at this); omega)); (try have hz2 : wd.heap.size + 1 + 1 < w1.heap.size := (by have := hbn.size; (try simp at this); omega))) | (go_at_call 22; (with_reducible refine ((k2 _).out).mono ?_); rintro e w2 ⟨rfl, hbn⟩; obtain ⟨hcn, hfn⟩ := bcell hbn; (try simp only [World.size_drew, World.cell?_drew, World.frozen?_drew] at hcn hfn); have hsz := hbn.size; (try simp at hsz); (try have hsl := Nat.lt_of_succ_le hsz); (try have hz0 : wd.heap.size < w2.heap.size := (by have := hbn.size; (try simp at this); omega)); (try have hz1 : wd.heap.size + 1 < w2.heap.size := (by have := hbn.size; (try simp at this); omega)); (try have hz2 : wd.heap.size + 1 + 1 < w2.heap.size := (by have := hbn.size; (try simp at this); omega)); (try have hz3 : w1.heap.size < w2.heap.size := (by have := hbn.size; (try simp at this); omega))) | (go_at_call 21; (with_reducible refine ((k3 _).out).mono ?_); rintro e w3 ⟨rfl, hbn⟩; obtain ⟨hcn, hfn⟩ := bcell hbn; (try simp only [World.size_drew, World.cell?_drew, World.frozen?_drew] at hcn hfn); have hsz := hbn.size; (try simp at hsz); (try have hsl := Nat.lt_of_succ_le hsz); (try have hz0 : wd.heap.size < w3.heap.size := (by have := hbn.size; (try simp at this); omega)); (try have hz1 : wd.heap.size + 1 < w3.heap.size := (by have := hbn.size; (try simp at this); omega)); (try have hz2 : wd.heap.size + 1 + 1 < w3.heap.size := (by have := hbn.size; (try simp at this); omega)); (try have hz3 : w1.heap.size < w3.heap.size := (by have := hbn.size; (try simp at this); omega)); (try have hz4 : w2.heap.size < w3.heap.size := (by have := hbn.size; (try simp at this); omega))) | (go_at_call 21; (with_reducible refine ((k4 _).out).mono ?_); rintro e w4 ⟨rfl, hbn⟩; obtain ⟨hcn, hfn⟩ := bcell hbn; (try simp only [World.size_drew, World.cell?_drew, World.frozen?_drew] at hcn hfn); have hsz := hbn.size; (try simp at hsz); (try have hsl := Nat.lt_of_succ_le hsz); (try have hz0 : wd.heap.size < w4.heap.size := (by have := hbn.size; (try simp at this); omega)); (try have hz1 : wd.heap.size + 1 < w4.heap.size := (by have := hbn.size; (try simp at this); omega)); (try have hz2 : wd.heap.size + 1 + 1 < w4.heap.size := (by have := hbn.size; (try simp at this); omega)); (try have hz3 : w1.heap.size < w4.heap.size := (by have := hbn.size; (try simp at this); omega)); (try have hz4 : w2.heap.size < w4.heap.size := (by have := hbn.size; (try simp at this); omega)); (try have hz5 : w3.heap.size < w4.heap.size := (by have := hbn.size; (try simp at this); omega))) | (go_at_call 21; (with_reducible refine ((k5 _).out).mono ?_); rintro e w5 ⟨rfl, hbn⟩; obtain ⟨hcn, hfn⟩ := bcell hbn; (try simp only [World.size_drew, World.cell?_drew, World.frozen?_drew] at hcn hfn); have hsz := hbn.size; (try simp at hsz); (try have hsl := Nat.lt_of_succ_le hsz); (try have hz0 : wd.heap.size < w5.heap.size := (by have := hbn.size; (try simp at this); omega)); (try have hz1 : wd.heap.size + 1 < w5.heap.size := (by have := hbn.size; (try simp at this); omega)); (try have hz2 : wd.heap.size + 1 + 1 < w5.heap.size := (by have := hbn.size; (try simp at this); omega)); (try have hz3 : w1.heap.size < w5.heap.size := (by have := hbn.size; (try simp at this); omega)); (try have hz4 : w2.heap.size < w5.heap.size := (by have := hbn.size; (try simp at this); omega)); (try have hz5 : w3.heap.size < w5.heap.size := (by have := hbn.size; (try simp at this); omega)); (try have hz6 : w4.heap.size < w5.heap.size := (by have := hbn.size; (try simp at this); omega))))
      go_ret
      exact ⟨rfl, (by repeat (first | with_reducible assumption | with_reducible exact Below.refl _ _ | (with_reducible refine below_chain ?_ (by with_reducible assumption) (by first | omega | (simp <;> omega) | simp)) | (with_reducible refine below_gb ?_ (by with_reducible assumption) (by first | omega | (simp <;> omega) | simp) (by first | omega | (simp <;> omega) | simp)) | (with_reducible refine Below.alloc ?_ (by first | omega | (simp <;> omega) | simp) _) | (with_reducible refine below_drewN ?_ _) | (with_reducible refine below_drew ?_) | (with_reducible refine Below.setCell ?_ (by first | omega | (simp <;> omega) | simp) _)))⟩
    · have k1 := fun w => Lib.hid (iSide_yes a b c d u v 1 w h3 (by rw [if_neg (by omega), if_pos hx]))
      have k2 := fun w => Lib.hid (sSide_yes a b c d u v 1 w p1 p2 p3 (by rw [if_neg (by omega), if_pos hx]))
      have k3 := fun w => Lib.hid (iSide_yes c d u v a b 1 w (three_mk p2 p3 p1) (by rw [t1, if_neg (by omega), if_pos hx]))
      have k4 := fun w => Lib.hid (iSide_yes c d a b u v (-1) w (three_mk p2 p1 p3) (by rw [t2, if_pos (by omega)]))
      have k5 := fun w => Lib.hid (iSide_yes a b c d a b 0 w (three_mk p1 p2 p1) (by rw [t3]; rfl))
      clear h3 p1 p2 p3 t1 t2 t3 hx
      go_wp2_with (first | (go_at_call 21; (with_reducible refine ((k1 _).out).mono ?_); rintro e w1 ⟨rfl, hbn⟩; obtain ⟨hcn, hfn⟩ := bcell hbn; (try simp only [World.size_drew, World.cell?_drew, World.frozen?_drew] at hcn hfn); have hsz := hbn.size; (try simp at hsz); (try have hsl := Nat.lt_of_succ_le hsz); (try have hz0 : wd.heap.size < w1.heap.size := (by have := hbn.size; (try simp at this); omega)); (try have hz1 : wd.heap.size + 1 < w1.heap.size := (by have := hbn.size; (try simp at this); omega)); (try have hz2 : wd.heap.size + 1 + 1 < w1.heap.size := (by have := hbn.size; (try simp at this); omega))) | (go_at_call 22; (with_reducible refine ((k2 _).out).mono ?_); rintro e w2 ⟨rfl, hbn⟩; obtain ⟨hcn, hfn⟩ := bcell hbn; (try simp only [World.size_drew, World.cell?_drew, World.frozen?_drew] at hcn hfn); have hsz := hbn.size; (try simp at hsz); (try have hsl := Nat.lt_of_succ_le hsz); (try have hz0 : wd.heap.size < w2.heap.size := (by have := hbn.size; (try simp at this); omega)); (try have hz1 : wd.heap.size + 1 < w2.heap.size := (by have := hbn.size; (try simp at this); omega)); (try have hz2 : wd.heap.size + 1 + 1 < w2.heap.size := (by have := hbn.size; (try simp at this); omega)); (try have hz3 : w1.heap.size < w2.heap.size := (by have := hbn.size; (try simp at this); omega))) | (go_at_call 21; (with_reducible refine ((k3 _).out).mono ?_); rintro e w3 ⟨rfl, hbn⟩; obtain ⟨hcn, hfn⟩ := bcell hbn; (try simp only [World.size_drew, World.cell?_drew, World.frozen?_drew] at hcn hfn); have hsz := hbn.size; (try simp at hsz); (try have hsl := Nat.lt_of_succ_le hsz); (try have hz0 : wd.heap.size < w3.heap.size := (by have := hbn.size; (try simp at this); omega)); (try have hz1 : wd.heap.size + 1 < w3.heap.size := (by have := hbn.size; (try simp at this); omega)); (try have hz2 : wd.heap.size + 1 + 1 < w3.heap.size := (by have := hbn.size; (try simp at this); omega)); (try have hz3 : w1.heap.size < w3.heap.size := (by have := hbn.size; (try simp at this); omega)); (try have hz4 : w2.heap.size < w3.heap.size := (by have := hbn.size; (try simp at this); omega))) | (go_at_call 21; (with_reducible refine ((k4 _).out).mono ?_); rintro e w4 ⟨rfl, hbn⟩; obtain ⟨hcn, hfn⟩ := bcell hbn; (try simp only [World.size_drew, World.cell?_drew, World.frozen?_drew] at hcn hfn); have hsz := hbn.size; (try simp at hsz); (try have hsl := Nat.lt_of_succ_le hsz); (try have hz0 : wd.heap.size < w4.heap.size := (by have := hbn.size; (try simp at this); omega)); (try have hz1 : wd.heap.size + 1 < w4.heap.size := (by have := hbn.size; (try simp at this); omega)); (try have hz2 : wd.heap.size + 1 + 1 < w4.heap.size := (by have := hbn.size; (try simp at this); omega)); (try have hz3 : w1.heap.size < w4.heap.size := (by have := hbn.size; (try simp at this); omega)); (try have hz4 : w2.heap.size < w4.heap.size := (by have := hbn.size; (try simp at this); omega)); (try have hz5 : w3.heap.size < w4.heap.size := (by have := hbn.size; (try simp at this); omega))) | (go_at_call 21; (with_reducible refine ((k5 _).out).mono ?_); rintro e w5 ⟨rfl, hbn⟩; obtain ⟨hcn, hfn⟩ := bcell hbn; (try simp only [World.size_drew, World.cell?_drew, World.frozen?_drew] at hcn hfn); have hsz := hbn.size; (try simp at hsz); (try have hsl := Nat.lt_of_succ_le hsz); (try have hz0 : wd.heap.size < w5.heap.size := (by have := hbn.size; (try simp at this); omega)); (try have hz1 : wd.heap.size + 1 < w5.heap.size := (by have := hbn.size; (try simp at this); omega)); (try have hz2 : wd.heap.size + 1 + 1 < w5.heap.size := (by have := hbn.size; (try simp at this); omega)); (try have hz3 : w1.heap.size < w5.heap.size := (by have := hbn.size; (try simp at this); omega)); (try have hz4 : w2.heap.size < w5.heap.size := (by have := hbn.size; (try simp at this); omega)); (try have hz5 : w3.heap.size < w5.heap.size := (by have := hbn.size; (try simp at this); omega)); (try have hz6 : w4.heap.size < w5.heap.size := (by have := hbn.size; (try simp at this); omega))))
      go_ret
      exact ⟨rfl, (by repeat (first | with_reducible assumption | with_reducible exact Below.refl _ _ | (with_reducible refine below_chain ?_ (by with_reducible assumption) (by first | omega | (simp <;> omega) | simp)) | (with_reducible refine below_gb ?_ (by with_reducible assumption) (by first | omega | (simp <;> omega) | simp) (by first | omega | (simp <;> omega) | simp)) | (with_reducible refine Below.alloc ?_ (by first | omega | (simp <;> omega) | simp) _) | (with_reducible refine below_drewN ?_ _) | (with_reducible refine below_drew ?_) | (with_reducible refine Below.setCell ?_ (by first | omega | (simp <;> omega) | simp) _)))⟩
  · have h3' : three a b c d u v = false := by simpa using h3
    have k1 := fun w => Lib.hid (iSide_no a b c d u v w h3')
    have k2 := fun w => Lib.hid (sSide_no a b c d u v _ _ _ w rfl rfl rfl h3')
    clear h3 h3'
    go_wp2_with (first | (go_at_call 21; (with_reducible refine ((k1 _).out).mono ?_); rintro e w1 ⟨rfl, hbn⟩; obtain ⟨hcn, hfn⟩ := bcell hbn; (try simp only [World.size_drew, World.cell?_drew, World.frozen?_drew] at hcn hfn); have hsz := hbn.size; (try simp at hsz); (try have hsl := Nat.lt_of_succ_le hsz); (try have hz0 : wd.heap.size < w1.heap.size := (by have := hbn.size; (try simp at this); omega)); (try have hz1 : wd.heap.size + 1 < w1.heap.size := (by have := hbn.size; (try simp at this); omega)); (try have hz2 : wd.heap.size + 1 + 1 < w1.heap.size := (by have := hbn.size; (try simp at this); omega))) | (go_at_call 22; (with_reducible refine ((k2 _).out).mono ?_); rintro e w2 ⟨rfl, hbn⟩; obtain ⟨hcn, hfn⟩ := bcell hbn; (try simp only [World.size_drew, World.cell?_drew, World.frozen?_drew] at hcn hfn); have hsz := hbn.size; (try simp at hsz); (try have hsl := Nat.lt_of_succ_le hsz); (try have hz0 : wd.heap.size < w2.heap.size := (by have := hbn.size; (try simp at this); omega)); (try have hz1 : wd.heap.size + 1 < w2.heap.size := (by have := hbn.size; (try simp at this); omega)); (try have hz2 : wd.heap.size + 1 + 1 < w2.heap.size := (by have := hbn.size; (try simp at this); omega)); (try have hz3 : w1.heap.size < w2.heap.size := (by have := hbn.size; (try simp at this); omega))))
    go_ret
    exact ⟨rfl, (by repeat (first | with_reducible assumption | with_reducible exact Below.refl _ _ | (with_reducible refine below_chain ?_ (by with_reducible assumption) (by first | omega | (simp <;> omega) | simp)) | (with_reducible refine below_gb ?_ (by with_reducible assumption) (by first | omega | (simp <;> omega) | simp) (by first | omega | (simp <;> omega) | simp)) | (with_reducible refine Below.alloc ?_ (by first | omega | (simp <;> omega) | simp) _) | (with_reducible refine below_drewN ?_ _) | (with_reducible refine below_drew ?_) | (with_reducible refine Below.setCell ?_ (by first | omega | (simp <;> omega) | simp) _)))⟩

theorem walk_long (len cap : Nat) (p : Option Addr) (w : World) (hl : 1048576 < len) :
    Calls Try.prog 4 #[.slice p len cap] w fun e w' => e = .returned (.bool true) ∧ Below w.heap.size w w' := by
  have hl' : (1048576 : Int) < (len : Int) := by omega
  go_enter Try.func4, Try.ntmps4
  go_wp2
  go_ret
  exact ⟨rfl, Below.refl _ _⟩

set_option maxRecDepth 100000 in
theorem lifted (os : Os) (started : os.Started) (H : Type) (enc : TypeId × Value → H) :
    ReturnsInHanded {} Try.checked os 4 .any (Rows.fnPointSideSpec.pre6 enc Try.prog Try.f4 Rows.fnPointSideRow.domain false) (Rows.fnPointSideSpec.post enc Try.prog Try.f4 false true false false) := by
  refine returnsInHanded_of_change (C := Try.checked) own started (by kernel_rfl) Try.func4
    (ChangeSpec.witness6 (enc := enc) (C := Try.checked) false ⟨#[], #[.slice none 0 0], []⟩ 8 (by kernel_rfl) (by kernel_rfl) (by kernel_rfl) (by kernel_rfl)) ?_
  intro W base args ds gs before hval0 hW hcnd _
  have hval : ∀ (j : Nat) t v, Try.f4.params[j]? = some t → args[j]? = some v → Value.okWide Try.prog W .any base t v := hval0
  have hW' := hW
  obtain ⟨p, q, hA0, hV, rfl, hfz, hnd⟩ := hW
  have hA : DataW.TrodAll enc Try.prog W 0 (fun _ => true) true Try.f4.params.toList args.toList ds p := hA0
  rw [Try.params4] at hA hval
  obtain ⟨v0, vs0, d0, ds0, p0, q0, hargs, rfl, rfl, h0, r0⟩ := trodAll_cons hA
  obtain ⟨rfl, rfl, rfl⟩ := trodAll_nil r0
  obtain rfl : args = #[v0] := by cases args; simp_all
  obtain ⟨rfl, rfl⟩ := trodVars_none hV
  obtain ⟨a0, len0, cap0, rfl⟩ := okWide_slice Try.underlying22 (hval 0 22 v0 rfl rfl)
  have k0 := h0
  have lt0 : ∀ x ∈ p0, x.block < W.heap.size := by obtain ⟨m, hm⟩ := k0; exact DataW.trod_lt m _ _ _ hm
  obtain ⟨z0, w0⟩ : ∃ zs, IsRow .u8 W a0 len0 cap0 zs := by
    obtain ⟨fuel, hf⟩ := h0
    rcases open_ints Try.underlying22 Try.underlying5 (by kernel_rfl) hf with ⟨hcs, _⟩ | ⟨x, l, c, zs, hcs, _, hl, hm, hz, _, hcell, hwz⟩
    · simp [Value.cells] at hcs
      obtain ⟨rfl, rfl, rfl⟩ := hcs
      exact ⟨[], .inl ⟨rfl, rfl, rfl, rfl⟩⟩
    · simp [Value.cells] at hcs
      obtain ⟨rfl, rfl, rfl⟩ := hcs
      exact ⟨zs, .inr ⟨_, rfl, hl, hm, by simpa using hz, hcell, hwz⟩⟩
  clear hA0 hval0
  have hw : Calls Try.prog 4 #[.slice a0 len0 cap0] W fun e w' => e = .returned (.bool true) ∧ Below W.heap.size W w' := by
    by_cases hl : len0 ≤ 1048576
    · exact walk len0 cap0 a0 W hl (Lib.hid (code_of_row w0 hl))
    · exact walk_long len0 cap0 a0 W (by omega)
  refine hw.mono fun e W' ⟨he, bel⟩ => ?_
  subst he
  exact ⟨_, rfl, _, _, _, [], _, [], hW', trodAll_mk1 (shut_bool Try.underlying4 _), (trodAll_cons_mk (Below.trod laidOut (by kernel_rfl) (of_decide_eq_true (by kernel_rfl)) k0 bel lt0) trodAll_mk0), rfl, bel.frame _, fun h => by cases h⟩

theorem over : Rows.fnPointSideRow.holds Try.pinned (OpenSpec.ofChange Rows.fnPointSideSpec) :=
  OpenClaim.holds_of_wide 4 Try.f4 rfl rfl rfl rfl rfl rfl rfl ⟨rfl, rfl, rfl, rfl, rfl⟩ rfl rfl rfl rfl rfl (by kernel_rfl) Try.func4 (by kernel_rfl)
    (of_decide_eq_true (by kernel_rfl)) (by unfold Func.isWrapper; first | (rw [if_pos (by decide +kernel)]; kernel_rfl) | (rw [if_neg (by decide +kernel)]; exact ⟨rfl, rfl⟩))
    (fun os started H enc _ => lifted os started H enc)

theorem proved : Rows.FnPointSideSaid := over
end Go.Proofs.Ytllpcbbomcmpbaa.fnPointSide

