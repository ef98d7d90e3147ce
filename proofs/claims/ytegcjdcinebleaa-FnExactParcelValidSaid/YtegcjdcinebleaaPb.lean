/-
  A list of points is valid if each one is.
-/
import Derived.Test.YtegcjdcinebleaaPa
import Derived.Deep.RegionHeld3
import Derived.Deep.DeepCutAuto
namespace Go.Proofs.Ytegcjdcinebleaa
open Go.RowKit
set_option linter.unusedVariables false

def allV (f g : Nat → Int) : Nat → Bool
  | 0 => true
  | k + 1 => allV f g k && Pt.pv (f k) (g k)
theorem allV_no {f g : Nat → Int} {k n : Nat} (h : k < n) (hk : Pt.pv (f k) (g k) = false) : allV f g n = false := by
  induction n with
  | zero => omega
  | succ n ih =>
    simp only [allV]
    by_cases e : k = n
    · subst e; simp [hk]
    · rw [ih (by omega)]; rfl

theorem pointsValid_any (B n : Nat) (f g : Nat → Int) (w : World) (hn : n ≤ 1000) (hB : B < w.heap.size)
    (hc : ∀ i, i < n → w.cell? ⟨B, i * 2, none⟩ = some (.int .i64 (f i)) ∧ w.cell? ⟨B, i * 2 + 1, none⟩ = some (.int .i64 (g i))) :
    Calls Try.prog 87 #[.slice (some ⟨B, 0, none⟩) n n] w fun e w' => e = .returned (.bool (allV f g n)) ∧ Below w.heap.size w w' := by
  have H := Lib.hid hc
  clear hc
  go_enter Try.func87, Try.ntmps87
  go_wp2
  go_loopw [4, 7] (fun _ i wr => ∃ k : Nat, k ≤ n ∧ i = .int .i64 k ∧ Hid (allV f g k = true) ∧ Below w.heap.size w wr) (fun _ i _ => n - (intOf i).toNat)
  case atStart => exact ⟨0, Nat.zero_le _, rfl, Lib.hid rfl, (by repeat (first | assumption | exact Below.refl _ _ | (refine below_chain ?_ (by assumption) (by first | omega | (simp <;> omega) | simp)) | (refine Below.alloc ?_ (by first | omega | (simp <;> omega) | simp) _) | (apply below_drewN) | (apply below_drew) | (refine Below.setCell ?_ (by first | omega | (simp <;> omega) | simp) _)))⟩
  case round =>
    obtain ⟨k, hk, rfl, hv, hb⟩ := hrel
    by_cases hlt : k < n
    · have c0 : wr.cell? ⟨B, k * 2, none⟩ = some (.int .i64 (f k)) := by rw [hb.cell (p := ⟨B, k * 2, none⟩) hB]; exact (H.out k hlt).1
      have c1 : wr.cell? ⟨B, k * 2 + 1, none⟩ = some (.int .i64 (g k)) := by rw [hb.cell (p := ⟨B, k * 2 + 1, none⟩) hB]; exact (H.out k hlt).2
      have hbs := hb.size
      by_cases hp : Pt.pv (f k) (g k) = true
      · have cv := fun w => Lib.hid (ipv_is (f k) (g k) true w hp)
        have hn2 : Hid (allV f g (k + 1) = true) := Lib.hid (by simp only [allV]; rw [hv.out, hp]; rfl)
        clear hp
        go_wp2_with (go_at_call 36; (with_reducible refine ((cv _).out).mono ?_); rintro e wn ⟨rfl, hbn⟩)
        go_roundw
        case rel => exact ⟨k + 1, by omega, by go_num, hn2, (by repeat (first | assumption | exact Below.refl _ _ | (refine below_chain ?_ (by assumption) (by first | omega | (simp <;> omega) | simp)) | (refine Below.alloc ?_ (by first | omega | (simp <;> omega) | simp) _) | (apply below_drewN) | (apply below_drew) | (refine Below.setCell ?_ (by first | omega | (simp <;> omega) | simp) _)))⟩
        case measure => simp [intOf]; omega
      · have hp' : Pt.pv (f k) (g k) = false := by simpa using hp
        have cv := fun w => Lib.hid (ipv_is (f k) (g k) false w hp')
        have hn2 : Hid (allV f g n = false) := Lib.hid (allV_no hlt hp')
        clear hp hp'
        go_wp2_with (go_at_call 36; (with_reducible refine ((cv _).out).mono ?_); rintro e wn ⟨rfl, hbn⟩)
        go_ret
        exact ⟨ret_bool hn2.out.symm, (by repeat (first | assumption | exact Below.refl _ _ | (refine below_chain ?_ (by assumption) (by first | omega | (simp <;> omega) | simp)) | (refine Below.alloc ?_ (by first | omega | (simp <;> omega) | simp) _) | (apply below_drewN) | (apply below_drew) | (refine Below.setCell ?_ (by first | omega | (simp <;> omega) | simp) _)))⟩
    · have e : k = n := by omega
      subst e
      go_wp2
      go_ret
      exact ⟨ret_bool hv.out.symm, hb⟩

def pick2 (a c : Int) : Nat → Int | 0 => a | _ => c
def pick3 (a c e : Int) : Nat → Int | 0 => a | 1 => c | _ => e
def both (a b c d : Int) : Bool := Pt.pv a b && Pt.pv c d
theorem both_true {a b c d : Int} (h : both a b c d = true) : Pt.pv a b = true ∧ Pt.pv c d = true := by unfold both at h; simpa using h
def three (a b c d u v : Int) : Bool := Pt.pv a b && Pt.pv c d && Pt.pv u v
theorem three_true {a b c d u v : Int} (h : three a b c d u v = true) : Pt.pv a b = true ∧ Pt.pv c d = true ∧ Pt.pv u v = true := by unfold three at h; simp at h; exact ⟨h.1.1, h.1.2, h.2⟩
theorem valid2 (a b c d : Int) (q : Bool) (B : Nat) (w : World) (hB : B < w.heap.size) (h0 : w.cell? ⟨B, 0, none⟩ = some (.int .i64 a)) (h1 : w.cell? ⟨B, 1, none⟩ = some (.int .i64 b)) (h2 : w.cell? ⟨B, 2, none⟩ = some (.int .i64 c)) (h3 : w.cell? ⟨B, 3, none⟩ = some (.int .i64 d)) (hq : both a b c d = q) :
    Calls Try.prog 87 #[.slice (some ⟨B, 0, none⟩) 2 2] w fun e w' => e = .returned (.bool q) ∧ Below w.heap.size w w' := by
  have := pointsValid_any B 2 (pick2 a c) (pick2 b d) w (by omega) hB (fun i hi => by
    rcases (show i = 0 ∨ i = 1 by omega) with rfl | rfl
    · exact ⟨h0, h1⟩
    · exact ⟨h2, h3⟩)
  rw [← hq]; simpa [allV, pick2, both] using this
theorem valid3 (a b c d u v : Int) (q : Bool) (B : Nat) (w : World) (hB : B < w.heap.size) (h0 : w.cell? ⟨B, 0, none⟩ = some (.int .i64 a)) (h1 : w.cell? ⟨B, 1, none⟩ = some (.int .i64 b)) (h2 : w.cell? ⟨B, 2, none⟩ = some (.int .i64 c)) (h3 : w.cell? ⟨B, 3, none⟩ = some (.int .i64 d)) (h4 : w.cell? ⟨B, 4, none⟩ = some (.int .i64 u)) (h5 : w.cell? ⟨B, 5, none⟩ = some (.int .i64 v)) (hq : three a b c d u v = q) :
    Calls Try.prog 87 #[.slice (some ⟨B, 0, none⟩) 3 3] w fun e w' => e = .returned (.bool q) ∧ Below w.heap.size w w' := by
  have := pointsValid_any B 3 (pick3 a c u) (pick3 b d v) w (by omega) hB (fun i hi => by
    rcases (show i = 0 ∨ i = 1 ∨ i = 2 by omega) with rfl | rfl | rfl
    · exact ⟨h0, h1⟩
    · exact ⟨h2, h3⟩
    · exact ⟨h4, h5⟩)
  rw [← hq]; simpa [allV, pick3, three] using this

end Go.Proofs.Ytegcjdcinebleaa
