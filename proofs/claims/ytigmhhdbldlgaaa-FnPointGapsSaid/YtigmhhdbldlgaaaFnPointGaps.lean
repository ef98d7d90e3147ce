/-
  For every code the law FnPointGaps returns true: so many whole points lie on a line as its gaps say, counted one by one where the line is short, and both directions have the same. No condition: every list of bytes is taken.
-/
import Derived.Test.YtigmhhdbldlgaaaDPts
import Derived.Test.YtigmhhdbldlgaaaCode
import Derived.Test.YtigmhhdbldlgaaaPy
import Derived.Test.YtigmhhdbldlgaaaPv
import Derived.Test.YtigmhhdbldlgaaaPCount
import Derived.WalkLawsBesides
namespace Go.Proofs.Ytigmhhdbldlgaaa.fnPointGaps
open Go.ChangeShapes Go.WideShapes Go.ChangeAt Go.RowKit
set_option linter.unusedVariables false

theorem both_mk {a b c d : Int} (h1 : Pt.pv a b = true) (h2 : Pt.pv c d = true) : both a b c d = true := by unfold both; simp [h1, h2]
theorem gaps_is (a b c d g : Int) (w : World) (h1 : Pt.pv a b = true) (h2 : Pt.pv c d = true) (hg : (Int.gcd (c - a) (d - b) : Int) = g) :
    Calls Try.prog 26 #[.agg #[.int .i64 a, .int .i64 b], .agg #[.int .i64 c, .int .i64 d]] w fun e w' => e = .returned (.int .i64 g) ∧ Below w.heap.size w w' := by
  rw [← hg]; exact iGaps_yes a b c d w (both_mk h1 h2)
theorem on_hit {a b c d i j : Int} (h1 : Pt.pv a b = true) (h2 : Pt.pv c d = true) (hi : min a c ≤ i) (hi' : i ≤ max a c) (hj : min b d ≤ j) (hj' : j ≤ max b d) (hne : ¬ (i = a ∧ j = b)) :
    onV a b c d i j = Pt.hit (c - a) (d - b) (i - a) (j - b) := by
  obtain ⟨p1, p2, p3, p4⟩ := Pt.pv_true h1
  obtain ⟨q1, q2, q3, q4⟩ := Pt.pv_true h2
  have h3 : Pt.pv i j = true := Pt.pv_in (by omega) (by omega) (by omega) (by omega)
  unfold onV Pt.hit three
  rw [h1, h2, h3, Pt.onB_move]
  have : (decide (i - a = 0) && decide (j - b = 0)) = false := by
    rw [Bool.eq_false_iff]; intro h; simp at h; omega
  rw [this]; rfl
theorem hit_none {a b c d : Int} : Pt.hit (c - a) (d - b) (a - a) (b - b) = false := by unfold Pt.hit; simp
theorem on_is {a b c d u v : Int} {t : Bool} (w : World) (h : onV a b c d u v = t) :
    Calls Try.prog 23 #[.agg #[.int .i64 a, .int .i64 b], .agg #[.int .i64 c, .int .i64 d], .agg #[.int .i64 u, .int .i64 v]] w fun e w' => e = .returned (.bool t) ∧ Below w.heap.size w w' := by
  rw [← h]; exact iOn_any a b c d u v w
def cX (p q : Int) (i : Nat) : Nat := Pt.cntX p q (min 0 p) i
def cY (p q : Int) (i j : Nat) : Nat := Pt.cntY p q (min 0 p + i) (min 0 q) j
theorem cX_succ (p q : Int) (i : Nat) : cX p q (i + 1) = cX p q i + cY p q i (q.natAbs + 1) := rfl
theorem cY_succ (p q : Int) (i j : Nat) : cY p q i (j + 1) = cY p q i j + if Pt.hit p q (min 0 p + i) (min 0 q + j) then 1 else 0 := rfl

theorem run_min (P : Program) (ts : Array TypeId) (t : TypeId) (a b m : Int) (w : World) (h : min a b = m) : (Builtin.min_ ts t #[.int .i64 a, .int .i64 b]).run P w = .ok (.int .i64 m) w := by
  have e : (if b < a then b else a) = m := by rw [← h]; split <;> omega
  simp [Builtin.min_, Builtin.min2]
  simpa using e
theorem run_max (P : Program) (ts : Array TypeId) (t : TypeId) (a b m : Int) (w : World) (h : max a b = m) : (Builtin.max_ ts t #[.int .i64 a, .int .i64 b]).run P w = .ok (.int .i64 m) w := by
  have e : (if b > a then b else a) = m := by rw [← h]; split <;> omega
  simp [Builtin.max_, Builtin.max2]
  simpa using e
set_option maxHeartbeats 4000000 in
set_option maxRecDepth 100000 in
theorem walk (len cap : Nat) (p : Option Addr) (w : World) (hl : len ≤ 1048576) (h : Hid (Code' w (.slice p len cap))) :
    Calls Try.prog 5 #[.slice p len cap] w fun e w' => e = .returned (.bool true) ∧ Below w.heap.size w w' := by
  have hl' : ¬ (1048576 : Int) < (len : Int) := by omega
  go_enter Try.func5, Try.ntmps5
  go_wp2_with (go_at_call 27; (with_reducible refine (drawGaps_any _ _ h).mono ?_); rintro e wd ⟨a, b, c, d, -, -, rfl, hbd⟩; obtain ⟨hcn, hfn⟩ := bcell hbd; have hsd := hbd.size)
  by_cases h3 : both a b c d = true
  · obtain ⟨h1, h2⟩ := both_true h3
    obtain ⟨p1, p2, p3, p4⟩ := Pt.pv_true h1
    obtain ⟨p5, p6, p7, p8⟩ := Pt.pv_true h2
    obtain ⟨g, hg⟩ : ∃ g : Int, (Int.gcd (c - a) (d - b) : Int) = g := ⟨_, rfl⟩
    have g0 : 0 ≤ g := by omega
    obtain ⟨f, hf⟩ : ∃ f : Int, Pt.dt (c - a) (d - b) (c - a) (d - b) = f := ⟨_, rfl⟩
    have k1 := fun w => Lib.hid (gaps_is a b c d g w h1 h2 hg)
    have k2 := fun w => Lib.hid (sGaps_yes a b c d w h1 h2)
    rw [hg] at k2
    have k3 := fun w => Lib.hid (iFar_yes a b c d w h3)
    rw [hf] at k3
    have hgb : (Int.gcd (a - c) (b - d) : Int) = g := by rw [← hg, ← Int.neg_sub c a, ← Int.neg_sub d b]; simp
    have k4 := fun w => Lib.hid (gaps_is c d a b g w h2 h1 hgb)
    have ng : ¬ g < 0 := by omega
    by_cases hf1 : 100 < f
    · have g1 : 1 ≤ g := by
        rcases Int.lt_or_le 0 g with h | h
        · omega
        · exfalso
          have : Int.gcd (c - a) (d - b) = 0 := by omega
          rw [Int.gcd_eq_zero_iff] at this
          rw [← hf, this.1, this.2] at hf1
          simp [Pt.dt] at hf1
      clear h1 h2 h3 hg hf hgb
      go_wp2_with (first | (go_at_call 26; (with_reducible refine ((k1 _).out).mono ?_); rintro e w1 ⟨rfl, hbn⟩; obtain ⟨hcn, hfn⟩ := bcell hbn; (try simp only [World.size_drew, World.cell?_drew, World.frozen?_drew, World.heap_drewN, World.cell?_drewN, World.frozen?_drewN] at hcn hfn); have hsz := hbn.size; (try simp at hsz); (try have hsl := Nat.lt_of_succ_le hsz); (try have hz0 : wd.heap.size < w1.heap.size := (by have := hbn.size; (try simp at this); omega)); (try have hz1 : wd.heap.size + 1 < w1.heap.size := (by have := hbn.size; (try simp at this); omega))) | (go_at_call 28; (with_reducible refine ((k2 _).out).mono ?_); rintro e w2 ⟨rfl, hbn⟩; obtain ⟨hcn, hfn⟩ := bcell hbn; (try simp only [World.size_drew, World.cell?_drew, World.frozen?_drew, World.heap_drewN, World.cell?_drewN, World.frozen?_drewN] at hcn hfn); have hsz := hbn.size; (try simp at hsz); (try have hsl := Nat.lt_of_succ_le hsz); (try have hz0 : wd.heap.size < w2.heap.size := (by have := hbn.size; (try simp at this); omega)); (try have hz1 : wd.heap.size + 1 < w2.heap.size := (by have := hbn.size; (try simp at this); omega)); (try have hz2 : w1.heap.size < w2.heap.size := (by have := hbn.size; (try simp at this); omega))) | (go_at_call 21; (with_reducible refine ((k3 _).out).mono ?_); rintro e w3 ⟨rfl, hbn⟩; obtain ⟨hcn, hfn⟩ := bcell hbn; (try simp only [World.size_drew, World.cell?_drew, World.frozen?_drew, World.heap_drewN, World.cell?_drewN, World.frozen?_drewN] at hcn hfn); have hsz := hbn.size; (try simp at hsz); (try have hsl := Nat.lt_of_succ_le hsz); (try have hz0 : wd.heap.size < w3.heap.size := (by have := hbn.size; (try simp at this); omega)); (try have hz1 : wd.heap.size + 1 < w3.heap.size := (by have := hbn.size; (try simp at this); omega)); (try have hz2 : w1.heap.size < w3.heap.size := (by have := hbn.size; (try simp at this); omega)); (try have hz3 : w2.heap.size < w3.heap.size := (by have := hbn.size; (try simp at this); omega))) | (go_at_call 26; (with_reducible refine ((k4 _).out).mono ?_); rintro e w4 ⟨rfl, hbn⟩; obtain ⟨hcn, hfn⟩ := bcell hbn; (try simp only [World.size_drew, World.cell?_drew, World.frozen?_drew, World.heap_drewN, World.cell?_drewN, World.frozen?_drewN] at hcn hfn); have hsz := hbn.size; (try simp at hsz); (try have hsl := Nat.lt_of_succ_le hsz); (try have hz0 : wd.heap.size < w4.heap.size := (by have := hbn.size; (try simp at this); omega)); (try have hz1 : wd.heap.size + 1 < w4.heap.size := (by have := hbn.size; (try simp at this); omega)); (try have hz2 : w1.heap.size < w4.heap.size := (by have := hbn.size; (try simp at this); omega)); (try have hz3 : w2.heap.size < w4.heap.size := (by have := hbn.size; (try simp at this); omega)); (try have hz4 : w3.heap.size < w4.heap.size := (by have := hbn.size; (try simp at this); omega))))
      go_ret
      exact ⟨rfl, (by repeat (first | with_reducible assumption | with_reducible exact Below.refl _ _ | (with_reducible refine below_chain ?_ (by with_reducible assumption) (by first | omega | (simp <;> omega) | simp)) | (with_reducible refine below_gb ?_ (by with_reducible assumption) (by first | omega | (simp <;> omega) | simp) (by first | omega | (simp <;> omega) | simp)) | (with_reducible refine Below.alloc ?_ (by first | omega | (simp <;> omega) | simp) _) | (with_reducible refine below_drewN ?_ _) | (with_reducible refine below_drew ?_) | (with_reducible refine Below.setCell ?_ (by first | omega | (simp <;> omega) | simp) _)))⟩
    · have hcount : (cX (c - a) (d - b) ((c - a).natAbs + 1) : Int) = g := by
        rw [← hg]; exact Pt.counted (by rw [← hf] at hf1; unfold Pt.dt at hf1; omega)
      have HC := Lib.hid hcount
      have H1 := Lib.hid h1
      have H2 := Lib.hid h2
      clear h3 hg hf hgb hcount k4
      obtain ⟨x0, hx0⟩ : ∃ x, min a c = x := ⟨_, rfl⟩
      obtain ⟨x1, hx1⟩ : ∃ x, max a c = x := ⟨_, rfl⟩
      obtain ⟨y0, hy0⟩ : ∃ x, min b d = x := ⟨_, rfl⟩
      obtain ⟨y1, hy1⟩ : ∃ x, max b d = x := ⟨_, rfl⟩
      have r1 := fun (w : World) (ts : Array TypeId) (t : TypeId) => run_min Try.prog ts t a c x0 w hx0
      have r2 := fun (w : World) (ts : Array TypeId) (t : TypeId) => run_max Try.prog ts t a c x1 w hx1
      have r3 := fun (w : World) (ts : Array TypeId) (t : TypeId) => run_min Try.prog ts t b d y0 w hy0
      have r4 := fun (w : World) (ts : Array TypeId) (t : TypeId) => run_max Try.prog ts t b d y1 w hy1
      have hX : x1 - x0 = ((c - a).natAbs : Int) := by omega
      have hY : y1 - y0 = ((d - b).natAbs : Int) := by omega
      have u0 : -10000 ≤ x0 := by omega
      have u1 : x1 ≤ 10000 := by omega
      have u2 : -10000 ≤ y0 := by omega
      have u3 : y1 ≤ 10000 := by omega
      have hMX : x0 = a + min 0 (c - a) := by omega
      have hMY : y0 = b + min 0 (d - b) := by omega
      have HX := Lib.hid (And.intro hx0 (And.intro hx1 (And.intro hy0 (And.intro hy1 (And.intro hX (And.intro hY (And.intro hMX hMY)))))))
      clear h1 h2 hx0 hx1 hy0 hy1 hX hY hMX hMY p1 p2 p3 p4 p5 p6 p7 p8
      go_wp2_with (first | (go_at_call 26; (with_reducible refine ((k1 _).out).mono ?_); rintro e w1 ⟨rfl, hbn⟩; obtain ⟨hcn, hfn⟩ := bcell hbn; (try simp only [World.size_drew, World.cell?_drew, World.frozen?_drew, World.heap_drewN, World.cell?_drewN, World.frozen?_drewN] at hcn hfn); have hsz := hbn.size; (try simp at hsz); (try have hsl := Nat.lt_of_succ_le hsz); (try have hz0 : wd.heap.size < w1.heap.size := (by have := hbn.size; (try simp at this); omega)); (try have hz1 : wd.heap.size + 1 < w1.heap.size := (by have := hbn.size; (try simp at this); omega))) | (go_at_call 28; (with_reducible refine ((k2 _).out).mono ?_); rintro e w2 ⟨rfl, hbn⟩; obtain ⟨hcn, hfn⟩ := bcell hbn; (try simp only [World.size_drew, World.cell?_drew, World.frozen?_drew, World.heap_drewN, World.cell?_drewN, World.frozen?_drewN] at hcn hfn); have hsz := hbn.size; (try simp at hsz); (try have hsl := Nat.lt_of_succ_le hsz); (try have hz0 : wd.heap.size < w2.heap.size := (by have := hbn.size; (try simp at this); omega)); (try have hz1 : wd.heap.size + 1 < w2.heap.size := (by have := hbn.size; (try simp at this); omega)); (try have hz2 : w1.heap.size < w2.heap.size := (by have := hbn.size; (try simp at this); omega))) | (go_at_call 21; (with_reducible refine ((k3 _).out).mono ?_); rintro e w3 ⟨rfl, hbn⟩; obtain ⟨hcn, hfn⟩ := bcell hbn; (try simp only [World.size_drew, World.cell?_drew, World.frozen?_drew, World.heap_drewN, World.cell?_drewN, World.frozen?_drewN] at hcn hfn); have hsz := hbn.size; (try simp at hsz); (try have hsl := Nat.lt_of_succ_le hsz); (try have hz0 : wd.heap.size < w3.heap.size := (by have := hbn.size; (try simp at this); omega)); (try have hz1 : wd.heap.size + 1 < w3.heap.size := (by have := hbn.size; (try simp at this); omega)); (try have hz2 : w1.heap.size < w3.heap.size := (by have := hbn.size; (try simp at this); omega)); (try have hz3 : w2.heap.size < w3.heap.size := (by have := hbn.size; (try simp at this); omega))))
      have e0 : w3.cell? ⟨wd.heap.size, 0, none⟩ = some (.int .i64 a) := by simp [*, go_sem]
      have e1 : w3.cell? ⟨wd.heap.size, 1, none⟩ = some (.int .i64 b) := by simp [*, go_sem]
      have e2 : w3.cell? ⟨wd.heap.size + 1, 0, none⟩ = some (.int .i64 c) := by simp [*, go_sem]
      have e3 : w3.cell? ⟨wd.heap.size + 1, 1, none⟩ = some (.int .i64 d) := by simp [*, go_sem]
      have hB3 : Below w.heap.size w w3 := (by repeat (first | with_reducible assumption | with_reducible exact Below.refl _ _ | (with_reducible refine below_chain ?_ (by with_reducible assumption) (by first | omega | (simp <;> omega) | simp)) | (with_reducible refine below_gb ?_ (by with_reducible assumption) (by first | omega | (simp <;> omega) | simp) (by first | omega | (simp <;> omega) | simp)) | (with_reducible refine Below.alloc ?_ (by first | omega | (simp <;> omega) | simp) _) | (with_reducible refine below_drewN ?_ _) | (with_reducible refine below_drew ?_) | (with_reducible refine Below.setCell ?_ (by first | omega | (simp <;> omega) | simp) _)))
      have z0 : wd.heap.size < w3.heap.size := by assumption
      have z1 : wd.heap.size + 1 < w3.heap.size := by assumption
      clear k1 k2 k3 hcn hfn hbn
      go_loopw [7, 8] (fun n x wr => ∃ i : Nat, x0 + i ≤ x1 + 1 ∧ x = .int .i64 (x0 + i) ∧ n = .int .i64 (cX (c - a) (d - b) i) ∧ cX (c - a) (d - b) i ≤ i * ((d - b).natAbs + 1) ∧ Below w3.heap.size w3 wr) (fun _ x _ => (x1 + 1 - intOf x).toNat)
      case atStart => exact ⟨0, by have := HX.out; omega, by simp, rfl, by simp [cX, Pt.cntX], Below.refl _ _⟩
      case round =>
        obtain ⟨i, hi, rfl, rfl, hn, hbr⟩ := hrel
        obtain ⟨wo, rfl⟩ : ∃ wo : World, wo = wr := ⟨_, rfl⟩
        have hbs := hbr.size
        obtain ⟨hcw, hfw⟩ := bcell hbr
        have z2 : wd.heap.size < wo.heap.size := by omega
        have z3 : wd.heap.size + 1 < wo.heap.size := by omega
        by_cases hlt : x0 + (i : Int) ≤ x1
        · have hnb : cX (c - a) (d - b) i ≤ 20002 * 20002 := by
            have := HX.out
            exact Nat.le_trans hn (Nat.mul_le_mul (by omega) (by omega))
          have f0 : wo.cell? ⟨wd.heap.size, 0, none⟩ = some (.int .i64 a) := by simp [*, go_sem]
          have f1 : wo.cell? ⟨wd.heap.size, 1, none⟩ = some (.int .i64 b) := by simp [*, go_sem]
          have f2 : wo.cell? ⟨wd.heap.size + 1, 0, none⟩ = some (.int .i64 c) := by simp [*, go_sem]
          have f3 : wo.cell? ⟨wd.heap.size + 1, 1, none⟩ = some (.int .i64 d) := by simp [*, go_sem]
          go_wp2_with fail
          go_loopw [7, 9] (fun n y wr => ∃ j : Nat, y0 + j ≤ y1 + 1 ∧ y = .int .i64 (y0 + j) ∧ n = .int .i64 ((cX (c - a) (d - b) i : Int) + (cY (c - a) (d - b) i j : Int)) ∧ cY (c - a) (d - b) i j ≤ j ∧ Below wo.heap.size wo wr) (fun _ y _ => (y1 + 1 - intOf y).toNat)
          case atStart => exact ⟨0, by have := HX.out; omega, by simp, by simp [cY, Pt.cntY], by simp [cY, Pt.cntY], Below.refl _ _⟩
          case round =>
            obtain ⟨j, hj, rfl, rfl, hm, hbi⟩ := hrel
            have hbt := hbi.size
            obtain ⟨hcv, hfv⟩ := bcell hbi
            have z4 : wd.heap.size < wr.heap.size := by omega
            have z5 : wd.heap.size + 1 < wr.heap.size := by omega
            by_cases hly : y0 + (j : Int) ≤ y1
            · have hstep : cY (c - a) (d - b) i (j + 1) = cY (c - a) (d - b) i j + if Pt.hit (c - a) (d - b) (x0 + i - a) (y0 + j - b) then 1 else 0 := by
                have := HX.out
                rw [cY_succ, show x0 + (i : Int) - a = min 0 (c - a) + i by omega, show y0 + (j : Int) - b = min 0 (d - b) + j by omega]
              have hon : ¬ (x0 + (i : Int) = a ∧ y0 + (j : Int) = b) → onV a b c d (x0 + i) (y0 + j) = Pt.hit (c - a) (d - b) (x0 + i - a) (y0 + j - b) := fun hne => by
                have := HX.out
                exact on_hit H1.out H2.out (by omega) (by omega) (by omega) (by omega) hne
              have HS := Lib.hid hstep
              clear hstep
              by_cases hxy : x0 + (i : Int) = a ∧ y0 + (j : Int) = b
              · have bx : (x0 + (i : Int) == a) = true := by simpa using hxy.1
                have bY : (y0 + (j : Int) == b) = true := by simpa using hxy.2
                have hs2 : cY (c - a) (d - b) i (j + 1) = cY (c - a) (d - b) i j := by
                  rw [HS.out, hxy.1, hxy.2, hit_none]; rfl
                have HS2 := Lib.hid hs2
                clear hs2 hon hxy HS
                go_wp2_with fail
                go_roundw
                case rel => exact ⟨j + 1, by omega, by go_num, by rw [HS2.out], by rw [HS2.out]; omega, (by repeat (first | with_reducible assumption | with_reducible exact Below.refl _ _ | (with_reducible refine below_chain ?_ (by with_reducible assumption) (by first | omega | (simp <;> omega) | simp)) | (with_reducible refine below_gb ?_ (by with_reducible assumption) (by first | omega | (simp <;> omega) | simp) (by first | omega | (simp <;> omega) | simp)) | (with_reducible refine Below.alloc ?_ (by first | omega | (simp <;> omega) | simp) _) | (with_reducible refine below_drewN ?_ _) | (with_reducible refine below_drew ?_) | (with_reducible refine Below.setCell ?_ (by first | omega | (simp <;> omega) | simp) _)))⟩
                case measure => simp [intOf]; omega
              · have hon2 := hon hxy
                by_cases hxa : x0 + (i : Int) = a
                · have bx : (x0 + (i : Int) == a) = true := by simpa using hxa
                  have bY : (y0 + (j : Int) == b) = false := by
                    have : ¬ y0 + (j : Int) = b := fun e => hxy ⟨hxa, e⟩
                    simpa using this
                  clear hxa
                  rcases (show Pt.hit (c - a) (d - b) (x0 + i - a) (y0 + j - b) = true ∨ Pt.hit (c - a) (d - b) (x0 + i - a) (y0 + j - b) = false by cases Pt.hit (c - a) (d - b) (x0 + i - a) (y0 + j - b) <;> simp) with hh | hh
                  ·
                    have hs2 : cY (c - a) (d - b) i (j + 1) = cY (c - a) (d - b) i j + 1 := by rw [HS.out, hh]; rfl
                    have HS2 := Lib.hid hs2
                    have k5 := fun w => Lib.hid (on_is w (hon2.trans hh))
                    clear hs2 hon hon2 hh HS hxy
                    go_wp2_with ((go_at_call 23; (with_reducible refine ((k5 _).out).mono ?_); rintro e w6 ⟨rfl, hbn⟩; obtain ⟨hcn, hfn⟩ := bcell hbn; (try simp only [World.size_drew, World.cell?_drew, World.frozen?_drew, World.heap_drewN, World.cell?_drewN, World.frozen?_drewN] at hcn hfn); have hsz := hbn.size; (try simp at hsz); (try have hsl := Nat.lt_of_succ_le hsz); (try have hz0 : wd.heap.size < w6.heap.size := (by have := hbn.size; (try simp at this); omega)); (try have hz1 : wd.heap.size + 1 < w6.heap.size := (by have := hbn.size; (try simp at this); omega)); (try have hz2 : wr.heap.size < w6.heap.size := (by have := hbn.size; (try simp at this); omega))))
                    go_roundw
                    case rel => exact ⟨j + 1, by omega, by go_num, by first | (rw [HS2.out]; done) | (rw [HS2.out]; go_num), by rw [HS2.out]; omega, (by repeat (first | with_reducible assumption | with_reducible exact Below.refl _ _ | (with_reducible refine below_chain ?_ (by with_reducible assumption) (by first | omega | (simp <;> omega) | simp)) | (with_reducible refine below_gb ?_ (by with_reducible assumption) (by first | omega | (simp <;> omega) | simp) (by first | omega | (simp <;> omega) | simp)) | (with_reducible refine Below.alloc ?_ (by first | omega | (simp <;> omega) | simp) _) | (with_reducible refine below_drewN ?_ _) | (with_reducible refine below_drew ?_) | (with_reducible refine Below.setCell ?_ (by first | omega | (simp <;> omega) | simp) _)))⟩
                    case measure => simp [intOf]; omega
                  ·
                    have hs2 : cY (c - a) (d - b) i (j + 1) = cY (c - a) (d - b) i j := by rw [HS.out, hh]; rfl
                    have HS2 := Lib.hid hs2
                    have k5 := fun w => Lib.hid (on_is w (hon2.trans hh))
                    clear hs2 hon hon2 hh HS hxy
                    go_wp2_with ((go_at_call 23; (with_reducible refine ((k5 _).out).mono ?_); rintro e w6 ⟨rfl, hbn⟩; obtain ⟨hcn, hfn⟩ := bcell hbn; (try simp only [World.size_drew, World.cell?_drew, World.frozen?_drew, World.heap_drewN, World.cell?_drewN, World.frozen?_drewN] at hcn hfn); have hsz := hbn.size; (try simp at hsz); (try have hsl := Nat.lt_of_succ_le hsz); (try have hz0 : wd.heap.size < w6.heap.size := (by have := hbn.size; (try simp at this); omega)); (try have hz1 : wd.heap.size + 1 < w6.heap.size := (by have := hbn.size; (try simp at this); omega)); (try have hz2 : wr.heap.size < w6.heap.size := (by have := hbn.size; (try simp at this); omega))))
                    go_roundw
                    case rel => exact ⟨j + 1, by omega, by go_num, by first | (rw [HS2.out]; done) | (rw [HS2.out]; go_num), by rw [HS2.out]; omega, (by repeat (first | with_reducible assumption | with_reducible exact Below.refl _ _ | (with_reducible refine below_chain ?_ (by with_reducible assumption) (by first | omega | (simp <;> omega) | simp)) | (with_reducible refine below_gb ?_ (by with_reducible assumption) (by first | omega | (simp <;> omega) | simp) (by first | omega | (simp <;> omega) | simp)) | (with_reducible refine Below.alloc ?_ (by first | omega | (simp <;> omega) | simp) _) | (with_reducible refine below_drewN ?_ _) | (with_reducible refine below_drew ?_) | (with_reducible refine Below.setCell ?_ (by first | omega | (simp <;> omega) | simp) _)))⟩
                    case measure => simp [intOf]; omega
                · have bx : (x0 + (i : Int) == a) = false := by simpa using hxa
                  clear hxa
                  rcases (show Pt.hit (c - a) (d - b) (x0 + i - a) (y0 + j - b) = true ∨ Pt.hit (c - a) (d - b) (x0 + i - a) (y0 + j - b) = false by cases Pt.hit (c - a) (d - b) (x0 + i - a) (y0 + j - b) <;> simp) with hh | hh
                  ·
                    have hs2 : cY (c - a) (d - b) i (j + 1) = cY (c - a) (d - b) i j + 1 := by rw [HS.out, hh]; rfl
                    have HS2 := Lib.hid hs2
                    have k5 := fun w => Lib.hid (on_is w (hon2.trans hh))
                    clear hs2 hon hon2 hh HS hxy
                    go_wp2_with ((go_at_call 23; (with_reducible refine ((k5 _).out).mono ?_); rintro e w6 ⟨rfl, hbn⟩; obtain ⟨hcn, hfn⟩ := bcell hbn; (try simp only [World.size_drew, World.cell?_drew, World.frozen?_drew, World.heap_drewN, World.cell?_drewN, World.frozen?_drewN] at hcn hfn); have hsz := hbn.size; (try simp at hsz); (try have hsl := Nat.lt_of_succ_le hsz); (try have hz0 : wd.heap.size < w6.heap.size := (by have := hbn.size; (try simp at this); omega)); (try have hz1 : wd.heap.size + 1 < w6.heap.size := (by have := hbn.size; (try simp at this); omega)); (try have hz2 : wr.heap.size < w6.heap.size := (by have := hbn.size; (try simp at this); omega))))
                    go_roundw
                    case rel => exact ⟨j + 1, by omega, by go_num, by first | (rw [HS2.out]; done) | (rw [HS2.out]; go_num), by rw [HS2.out]; omega, (by repeat (first | with_reducible assumption | with_reducible exact Below.refl _ _ | (with_reducible refine below_chain ?_ (by with_reducible assumption) (by first | omega | (simp <;> omega) | simp)) | (with_reducible refine below_gb ?_ (by with_reducible assumption) (by first | omega | (simp <;> omega) | simp) (by first | omega | (simp <;> omega) | simp)) | (with_reducible refine Below.alloc ?_ (by first | omega | (simp <;> omega) | simp) _) | (with_reducible refine below_drewN ?_ _) | (with_reducible refine below_drew ?_) | (with_reducible refine Below.setCell ?_ (by first | omega | (simp <;> omega) | simp) _)))⟩
                    case measure => simp [intOf]; omega
                  ·
                    have hs2 : cY (c - a) (d - b) i (j + 1) = cY (c - a) (d - b) i j := by rw [HS.out, hh]; rfl
                    have HS2 := Lib.hid hs2
                    have k5 := fun w => Lib.hid (on_is w (hon2.trans hh))
                    clear hs2 hon hon2 hh HS hxy
                    go_wp2_with ((go_at_call 23; (with_reducible refine ((k5 _).out).mono ?_); rintro e w6 ⟨rfl, hbn⟩; obtain ⟨hcn, hfn⟩ := bcell hbn; (try simp only [World.size_drew, World.cell?_drew, World.frozen?_drew, World.heap_drewN, World.cell?_drewN, World.frozen?_drewN] at hcn hfn); have hsz := hbn.size; (try simp at hsz); (try have hsl := Nat.lt_of_succ_le hsz); (try have hz0 : wd.heap.size < w6.heap.size := (by have := hbn.size; (try simp at this); omega)); (try have hz1 : wd.heap.size + 1 < w6.heap.size := (by have := hbn.size; (try simp at this); omega)); (try have hz2 : wr.heap.size < w6.heap.size := (by have := hbn.size; (try simp at this); omega))))
                    go_roundw
                    case rel => exact ⟨j + 1, by omega, by go_num, by first | (rw [HS2.out]; done) | (rw [HS2.out]; go_num), by rw [HS2.out]; omega, (by repeat (first | with_reducible assumption | with_reducible exact Below.refl _ _ | (with_reducible refine below_chain ?_ (by with_reducible assumption) (by first | omega | (simp <;> omega) | simp)) | (with_reducible refine below_gb ?_ (by with_reducible assumption) (by first | omega | (simp <;> omega) | simp) (by first | omega | (simp <;> omega) | simp)) | (with_reducible refine Below.alloc ?_ (by first | omega | (simp <;> omega) | simp) _) | (with_reducible refine below_drewN ?_ _) | (with_reducible refine below_drew ?_) | (with_reducible refine Below.setCell ?_ (by first | omega | (simp <;> omega) | simp) _)))⟩
                    case measure => simp [intOf]; omega
            · have hend : (cX (c - a) (d - b) i : Int) + (cY (c - a) (d - b) i j : Int) = (cX (c - a) (d - b) (i + 1) : Int) ∧ cX (c - a) (d - b) (i + 1) ≤ (i + 1) * ((d - b).natAbs + 1) := by
                have := HX.out
                obtain rfl : j = (d - b).natAbs + 1 := by omega
                rw [cX_succ]
                refine ⟨by simp, ?_⟩
                rw [Nat.add_mul, Nat.one_mul]; omega
              have HE := Lib.hid hend
              clear hend
              go_wp2_with fail
              go_roundw
              case rel => exact ⟨i + 1, by omega, by go_num, by rw [HE.out.1], HE.out.2, (by repeat (first | with_reducible assumption | with_reducible exact Below.refl _ _ | (with_reducible refine below_chain ?_ (by with_reducible assumption) (by first | omega | (simp <;> omega) | simp)) | (with_reducible refine below_gb ?_ (by with_reducible assumption) (by first | omega | (simp <;> omega) | simp) (by first | omega | (simp <;> omega) | simp)) | (with_reducible refine Below.alloc ?_ (by first | omega | (simp <;> omega) | simp) _) | (with_reducible refine below_drewN ?_ _) | (with_reducible refine below_drew ?_) | (with_reducible refine Below.setCell ?_ (by first | omega | (simp <;> omega) | simp) _)))⟩
              case measure => simp [intOf]; omega
        · have e : (cX (c - a) (d - b) i : Int) = g := by
            have := HX.out
            obtain rfl : i = (c - a).natAbs + 1 := by omega
            exact HC.out
          have b1 : ((cX (c - a) (d - b) i : Int) == g) = true := by simpa using e
          clear e
          go_wp2_with fail
          go_ret
          exact ⟨rfl, (by repeat (first | with_reducible assumption | with_reducible exact Below.refl _ _ | (with_reducible refine below_chain ?_ (by with_reducible assumption) (by first | omega | (simp <;> omega) | simp)) | (with_reducible refine below_gb ?_ (by with_reducible assumption) (by first | omega | (simp <;> omega) | simp) (by first | omega | (simp <;> omega) | simp)) | (with_reducible refine Below.alloc ?_ (by first | omega | (simp <;> omega) | simp) _) | (with_reducible refine below_drewN ?_ _) | (with_reducible refine below_drew ?_) | (with_reducible refine Below.setCell ?_ (by first | omega | (simp <;> omega) | simp) _)))⟩
  · have h3' : both a b c d = false := by simpa using h3
    have k1 := fun w => Lib.hid (iGaps_no a b c d w h3')
    have k2 := fun w => Lib.hid (sGaps_no a b c d _ _ w rfl rfl h3')
    clear h3 h3'
    go_wp2_with (first | (go_at_call 26; (with_reducible refine ((k1 _).out).mono ?_); rintro e w1 ⟨rfl, hbn⟩; obtain ⟨hcn, hfn⟩ := bcell hbn; (try simp only [World.size_drew, World.cell?_drew, World.frozen?_drew, World.heap_drewN, World.cell?_drewN, World.frozen?_drewN] at hcn hfn); have hsz := hbn.size; (try simp at hsz); (try have hsl := Nat.lt_of_succ_le hsz); (try have hz0 : wd.heap.size < w1.heap.size := (by have := hbn.size; (try simp at this); omega)); (try have hz1 : wd.heap.size + 1 < w1.heap.size := (by have := hbn.size; (try simp at this); omega))) | (go_at_call 28; (with_reducible refine ((k2 _).out).mono ?_); rintro e w2 ⟨rfl, hbn⟩; obtain ⟨hcn, hfn⟩ := bcell hbn; (try simp only [World.size_drew, World.cell?_drew, World.frozen?_drew, World.heap_drewN, World.cell?_drewN, World.frozen?_drewN] at hcn hfn); have hsz := hbn.size; (try simp at hsz); (try have hsl := Nat.lt_of_succ_le hsz); (try have hz0 : wd.heap.size < w2.heap.size := (by have := hbn.size; (try simp at this); omega)); (try have hz1 : wd.heap.size + 1 < w2.heap.size := (by have := hbn.size; (try simp at this); omega)); (try have hz2 : w1.heap.size < w2.heap.size := (by have := hbn.size; (try simp at this); omega))))
    go_ret
    exact ⟨rfl, (by repeat (first | with_reducible assumption | with_reducible exact Below.refl _ _ | (with_reducible refine below_chain ?_ (by with_reducible assumption) (by first | omega | (simp <;> omega) | simp)) | (with_reducible refine below_gb ?_ (by with_reducible assumption) (by first | omega | (simp <;> omega) | simp) (by first | omega | (simp <;> omega) | simp)) | (with_reducible refine Below.alloc ?_ (by first | omega | (simp <;> omega) | simp) _) | (with_reducible refine below_drewN ?_ _) | (with_reducible refine below_drew ?_) | (with_reducible refine Below.setCell ?_ (by first | omega | (simp <;> omega) | simp) _)))⟩

theorem walk_long (len cap : Nat) (p : Option Addr) (w : World) (hl : 1048576 < len) :
    Calls Try.prog 5 #[.slice p len cap] w fun e w' => e = .returned (.bool true) ∧ Below w.heap.size w w' := by
  have hl' : (1048576 : Int) < (len : Int) := by omega
  go_enter Try.func5, Try.ntmps5
  go_wp2
  go_ret
  exact ⟨rfl, Below.refl _ _⟩

set_option maxRecDepth 100000 in
theorem lifted (os : Os) (started : os.Started) (H : Type) (enc : TypeId × Value → H) :
    ReturnsInHanded {} Try.checked os 5 .any (Rows.fnPointGapsSpec.pre6 enc Try.prog Try.f5 Rows.fnPointGapsRow.domain false) (Rows.fnPointGapsSpec.post enc Try.prog Try.f5 false true false false) := by
  refine returnsInHanded_of_change (C := Try.checked) own started (by kernel_rfl) Try.func5
    (ChangeSpec.witness6 (enc := enc) (C := Try.checked) false ⟨#[], #[.slice none 0 0], []⟩ 8 (by kernel_rfl) (by kernel_rfl) (by kernel_rfl) (by kernel_rfl)) ?_
  intro W base args ds gs before hval0 hW hcnd _
  have hval : ∀ (j : Nat) t v, Try.f5.params[j]? = some t → args[j]? = some v → Value.okWide Try.prog W .any base t v := hval0
  have hW' := hW
  obtain ⟨p, q, hA0, hV, rfl, hfz, hnd⟩ := hW
  have hA : DataW.TrodAll enc Try.prog W 0 (fun _ => true) true Try.f5.params.toList args.toList ds p := hA0
  rw [Try.params5] at hA hval
  obtain ⟨v0, vs0, d0, ds0, p0, q0, hargs, rfl, rfl, h0, r0⟩ := trodAll_cons hA
  obtain ⟨rfl, rfl, rfl⟩ := trodAll_nil r0
  obtain rfl : args = #[v0] := by cases args; simp_all
  obtain ⟨rfl, rfl⟩ := trodVars_none hV
  obtain ⟨a0, len0, cap0, rfl⟩ := okWide_slice Try.underlying22 (hval 0 22 v0 rfl rfl)
  have k0 := h0
  have lt0 : ∀ x ∈ p0, x.block < W.heap.size := by obtain ⟨m, hm⟩ := k0; exact DataW.trod_lt m _ _ _ hm
  obtain ⟨z0, w0⟩ : ∃ zs, IsRow .u8 W a0 len0 cap0 zs := by
    obtain ⟨fuel, hf⟩ := h0
    rcases open_ints Try.underlying22 Try.underlying5 (by kernel_rfl) hf with ⟨hcs, _⟩ | ⟨x, l, c, zs, hcs, _, hl, hm, hz, _, hcell, hwz⟩
    · simp [Value.cells] at hcs
      obtain ⟨rfl, rfl, rfl⟩ := hcs
      exact ⟨[], .inl ⟨rfl, rfl, rfl, rfl⟩⟩
    · simp [Value.cells] at hcs
      obtain ⟨rfl, rfl, rfl⟩ := hcs
      exact ⟨zs, .inr ⟨_, rfl, hl, hm, by simpa using hz, hcell, hwz⟩⟩
  clear hA0 hval0
  have hw : Calls Try.prog 5 #[.slice a0 len0 cap0] W fun e w' => e = .returned (.bool true) ∧ Below W.heap.size W w' := by
    by_cases hl : len0 ≤ 1048576
    · exact walk len0 cap0 a0 W hl (Lib.hid (code_of_row w0 hl))
    · exact walk_long len0 cap0 a0 W (by omega)
  refine hw.mono fun e W' ⟨he, bel⟩ => ?_
  subst he
  exact ⟨_, rfl, _, _, _, [], _, [], hW', trodAll_mk1 (shut_bool Try.underlying4 _), (trodAll_cons_mk (Below.trod laidOut (by kernel_rfl) (of_decide_eq_true (by kernel_rfl)) k0 bel lt0) trodAll_mk0), rfl, bel.frame _, fun h => by cases h⟩

theorem over : Rows.fnPointGapsRow.holds Try.pinned (OpenSpec.ofChange Rows.fnPointGapsSpec) :=
  OpenClaim.holds_of_wide 5 Try.f5 rfl rfl rfl rfl rfl rfl rfl ⟨rfl, rfl, rfl, rfl, rfl⟩ rfl rfl rfl rfl rfl (by kernel_rfl) Try.func5 (by kernel_rfl)
    (of_decide_eq_true (by kernel_rfl)) (by unfold Func.isWrapper; first | (rw [if_pos (by decide +kernel)]; kernel_rfl) | (rw [if_neg (by decide +kernel)]; exact ⟨rfl, rfl⟩))
    (fun os started H enc _ => lifted os started H enc)

theorem proved : Rows.FnPointGapsSaid := over
end Go.Proofs.Ytigmhhdbldlgaaa.fnPointGaps

