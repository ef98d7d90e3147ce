/-
  What NetValid answers, in both programs.
  What the reference model's NetValid answers.
  What NetFits answers, in both programs.
  What the reference model's NetFits answers.
  What NetBack answers, in both programs; a clone of a list of runs.
  How the laws copy runs and integers, mark what is theirs and look whether it holds.
-/
import Derived.Test.YtoaomjchaihkaaaGreatDoorZa
import Derived.Deep.Draws
import Derived.Laws.Cover3
namespace Go.Proofs.YtoaomjchaihkaaaGreatDoor
open Go.RowKit
set_option linter.unusedVariables false

theorem nRunValid (n : Int) (f t s g : Int) (b : Bool) (w : World) (hb : rOk n ⟨f, t, s, g⟩ = b) :
    Calls Tryz.prog 92 #[.int .i64 n, .agg #[.int .i64 f, .int .i64 t, .int .i64 s, .int .i64 g]] w fun e w' => e = .returned (.bool b) ∧ Below w.heap.size w w' := by
  by_cases h1 : 0 ≤ f ∧ f < n
  · by_cases h2 : 0 ≤ t ∧ t < n
    · by_cases h3 : f = t
      · have hc : b = false := by rw [← hb]; simp [rOk, h3]
        have c1 := fun w => Lib.hid (nHas n f true w (by simp [h1]))
        subst hc h3
        clear hb h1 h2
        go_enter Tryz.func92, Tryz.ntmps92
        go_wp2_with ((go_at_call 120; (with_reducible refine ((c1 _).out).mono ?_); rintro e w' ⟨rfl, rfl⟩))
        go_ret
        exact ⟨rfl, (by repeat (first | assumption | exact Below.refl _ _ | (refine below_chain ?_ (by assumption) (by first | omega | (simp <;> omega) | simp)) | (refine Below.alloc ?_ (by first | omega | (simp <;> omega) | simp) _) | (apply below_drewN) | (apply below_drew) | (refine Below.setCell ?_ (by first | omega | (simp <;> omega) | simp) _)))⟩
      · have h3' : (f == t) = false := by simpa using h3
        have c1 := fun w => Lib.hid (nHas n f true w (by simp [h1]))
        have c2 := fun w => Lib.hid (nHas n t true w (by simp [h2]))
        have h6 : rOk n ⟨f, t, s, g⟩ = (decide (-100000 ≤ s ∧ s ≤ 100000) && decide (1 ≤ g ∧ g ≤ 9)) := by simp [rOk, h1, h2, h3]
        by_cases h4 : -100000 ≤ s ∧ s ≤ 100000
        · have c3 := fun w => Lib.hid (nWithin s 100000 true w (by decide) (by decide) (by simp [h4]))
          have hc : b = (decide (1 ≤ g) && decide (g ≤ 9)) := by rw [← hb, h6]; simp [h4]
          clear hb h1 h2 h3 h4 h6
          go_enter Tryz.func92, Tryz.ntmps92
          by_cases h5 : 1 ≤ g
          · go_wp2_with (first | (go_at_call 120; (with_reducible refine ((c1 _).out).mono ?_); rintro e w' ⟨rfl, rfl⟩) | (go_at_call 120; (with_reducible refine ((c2 _).out).mono ?_); rintro e w' ⟨rfl, rfl⟩) | (go_at_call 62; (with_reducible refine ((c3 _).out).mono ?_); rintro e w' ⟨rfl, rfl⟩))
            go_ret
            exact ⟨by simp [hc, h5], (by repeat (first | assumption | exact Below.refl _ _ | (refine below_chain ?_ (by assumption) (by first | omega | (simp <;> omega) | simp)) | (refine Below.alloc ?_ (by first | omega | (simp <;> omega) | simp) _) | (apply below_drewN) | (apply below_drew) | (refine Below.setCell ?_ (by first | omega | (simp <;> omega) | simp) _)))⟩
          · go_wp2_with (first | (go_at_call 120; (with_reducible refine ((c1 _).out).mono ?_); rintro e w' ⟨rfl, rfl⟩) | (go_at_call 120; (with_reducible refine ((c2 _).out).mono ?_); rintro e w' ⟨rfl, rfl⟩) | (go_at_call 62; (with_reducible refine ((c3 _).out).mono ?_); rintro e w' ⟨rfl, rfl⟩))
            go_ret
            exact ⟨by simp; omega, (by repeat (first | assumption | exact Below.refl _ _ | (refine below_chain ?_ (by assumption) (by first | omega | (simp <;> omega) | simp)) | (refine Below.alloc ?_ (by first | omega | (simp <;> omega) | simp) _) | (apply below_drewN) | (apply below_drew) | (refine Below.setCell ?_ (by first | omega | (simp <;> omega) | simp) _)))⟩
        · have c3 := fun w => Lib.hid (nWithin s 100000 false w (by decide) (by decide) (by simp [h4]))
          have hc : b = false := by rw [← hb, h6]; simp [h4]
          subst hc
          clear hb h1 h2 h3 h4 h6
          go_enter Tryz.func92, Tryz.ntmps92
          go_wp2_with (first | (go_at_call 120; (with_reducible refine ((c1 _).out).mono ?_); rintro e w' ⟨rfl, rfl⟩) | (go_at_call 120; (with_reducible refine ((c2 _).out).mono ?_); rintro e w' ⟨rfl, rfl⟩) | (go_at_call 62; (with_reducible refine ((c3 _).out).mono ?_); rintro e w' ⟨rfl, rfl⟩))
          go_ret
          exact ⟨rfl, (by repeat (first | assumption | exact Below.refl _ _ | (refine below_chain ?_ (by assumption) (by first | omega | (simp <;> omega) | simp)) | (refine Below.alloc ?_ (by first | omega | (simp <;> omega) | simp) _) | (apply below_drewN) | (apply below_drew) | (refine Below.setCell ?_ (by first | omega | (simp <;> omega) | simp) _)))⟩
    · have hc : b = false := by rw [← hb]; simp only [rOk, h2, decide_false, Bool.and_false, Bool.false_and]
      have c1 := fun w => Lib.hid (nHas n f true w (by simp [h1]))
      have c2 := fun w => Lib.hid (nHas n t false w (by simp only [h2, decide_false]))
      subst hc
      clear hb h1 h2
      go_enter Tryz.func92, Tryz.ntmps92
      go_wp2_with (first | (go_at_call 120; (with_reducible refine ((c1 _).out).mono ?_); rintro e w' ⟨rfl, rfl⟩) | (go_at_call 120; (with_reducible refine ((c2 _).out).mono ?_); rintro e w' ⟨rfl, rfl⟩))
      go_ret
      exact ⟨rfl, (by repeat (first | assumption | exact Below.refl _ _ | (refine below_chain ?_ (by assumption) (by first | omega | (simp <;> omega) | simp)) | (refine Below.alloc ?_ (by first | omega | (simp <;> omega) | simp) _) | (apply below_drewN) | (apply below_drew) | (refine Below.setCell ?_ (by first | omega | (simp <;> omega) | simp) _)))⟩
  · have hc : b = false := by rw [← hb]; simp only [rOk, h1, decide_false, Bool.false_and]
    have c1 := fun w => Lib.hid (nHas n f false w (by simp only [h1, decide_false]))
    subst hc
    clear hb h1
    go_enter Tryz.func92, Tryz.ntmps92
    go_wp2_with (first | (go_at_call 120; (with_reducible refine ((c1 _).out).mono ?_); rintro e w' ⟨rfl, rfl⟩))
    go_ret
    exact ⟨rfl, (by repeat (first | assumption | exact Below.refl _ _ | (refine below_chain ?_ (by assumption) (by first | omega | (simp <;> omega) | simp)) | (refine Below.alloc ?_ (by first | omega | (simp <;> omega) | simp) _) | (apply below_drewN) | (apply below_drew) | (refine Below.setCell ?_ (by first | omega | (simp <;> omega) | simp) _)))⟩

theorem runs_cell {w : World} {B o : Nat} {r : Rn} (h : RunAt w B o r) : w.cell? ⟨B, o, none⟩ = some (.int .i64 r.f) ∧ w.cell? ⟨B, o + 1, none⟩ = some (.int .i64 r.t) ∧ w.cell? ⟨B, o + 2, none⟩ = some (.int .i64 r.s) ∧ w.cell? ⟨B, o + 3, none⟩ = some (.int .i64 r.g) := h

set_option maxHeartbeats 1000000 in
theorem iValid (n : Int) (p : Option Addr) (c : Nat) (rs : List Rn) (b : Bool) (w : World) (h : Runs w p rs) (hc : rs.length ≤ 4000000000000000000) (hb : nOk n rs = b) :
    Calls Tryz.prog 52 #[.int .i64 n, .slice p rs.length c] w fun e w' => e = .returned (.bool b) ∧ Below w.heap.size w w' := by
  by_cases h1 : 2 ≤ n
  · by_cases h2 : n ≤ 6
    · by_cases h3 : rs.length ≤ 12
      · have H := Lib.hid h
        have HB := Lib.hid hb
        clear h hb hc
        go_enter Tryz.func52, Tryz.ntmps52
        go_wp2_with fail
        go_loopw [20] (fun i wr => ∃ k : Nat, k ≤ rs.length ∧ i = .int .i64 k ∧ okTo n rs k ∧ Below w.heap.size w wr) (fun i _ => rs.length - (intOf i).toNat)
        case atStart => exact ⟨0, Nat.zero_le _, rfl, okTo_zero _ _, Below.refl _ _⟩
        case round =>
          obtain ⟨k, hk, rfl, hok, hbr⟩ := hrel
          have hbs := hbr.size
          have HO := Lib.hid hok
          clear hok
          by_cases hlt : k < rs.length
          · obtain ⟨B, o, r, rfl, hr, hB, hat⟩ := (H.out.below hbr).at hlt
            obtain ⟨e0, e1, e2, e3⟩ := hat
            have HR := Lib.hid hr
            clear hr
            obtain ⟨v, hv⟩ : ∃ v, rOk n r = v := ⟨_, rfl⟩
            have HV := Lib.hid hv
            have cr := fun w => Lib.hid (nRunValid n r.f r.t r.s r.g v w hv)
            clear hv
            cases v
            · go_wp2_with ((go_at_call 92; (with_reducible refine ((cr _).out).mono ?_); rintro e wn ⟨rfl, hbn⟩; obtain ⟨hcn, hfn⟩ := bcell hbn; (try simp only [World.size_drew, World.cell?_drew, World.frozen?_drew, World.heap_drewN, World.cell?_drewN, World.frozen?_drewN] at hcn hfn); have hsz := hbn.size; (try simp at hsz); (try have hsl := Nat.lt_of_succ_le hsz); (try have hz0 : wr.heap.size < wn.heap.size := (by have := hbn.size; (try simp at this); omega))))
              go_ret
              exact ⟨ret_bool ((nOk_no HR.out HV.out).symm.trans HB.out), (by repeat (first | assumption | exact Below.refl _ _ | (refine below_chain ?_ (by assumption) (by first | omega | (simp <;> omega) | simp)) | (refine Below.alloc ?_ (by first | omega | (simp <;> omega) | simp) _) | (apply below_drewN) | (apply below_drew) | (refine Below.setCell ?_ (by first | omega | (simp <;> omega) | simp) _)))⟩
            · go_wp2_with ((go_at_call 92; (with_reducible refine ((cr _).out).mono ?_); rintro e wn ⟨rfl, hbn⟩; obtain ⟨hcn, hfn⟩ := bcell hbn; (try simp only [World.size_drew, World.cell?_drew, World.frozen?_drew, World.heap_drewN, World.cell?_drewN, World.frozen?_drewN] at hcn hfn); have hsz := hbn.size; (try simp at hsz); (try have hsl := Nat.lt_of_succ_le hsz); (try have hz0 : wr.heap.size < wn.heap.size := (by have := hbn.size; (try simp at this); omega))))
              go_roundw
              case rel => exact ⟨k + 1, by omega, by go_num, okTo_succ HO.out HR.out HV.out, (by repeat (first | assumption | exact Below.refl _ _ | (refine below_chain ?_ (by assumption) (by first | omega | (simp <;> omega) | simp)) | (refine Below.alloc ?_ (by first | omega | (simp <;> omega) | simp) _) | (apply below_drewN) | (apply below_drew) | (refine Below.setCell ?_ (by first | omega | (simp <;> omega) | simp) _)))⟩
              case measure => simp [intOf]; omega
          · have e : k = rs.length := by omega
            subst e
            go_wp2_with fail
            go_ret
            exact ⟨ret_bool ((nOk_of_to h1 h2 h3 HO.out).symm.trans HB.out), (by repeat (first | assumption | exact Below.refl _ _ | (refine below_chain ?_ (by assumption) (by first | omega | (simp <;> omega) | simp)) | (refine Below.alloc ?_ (by first | omega | (simp <;> omega) | simp) _) | (apply below_drewN) | (apply below_drew) | (refine Below.setCell ?_ (by first | omega | (simp <;> omega) | simp) _)))⟩
      · have e : b = false := by rw [← hb]; exact nOk_size (by omega)
        subst e
        clear h hb
        go_enter Tryz.func52, Tryz.ntmps52
        go_wp2_with fail
        go_ret
        exact ⟨rfl, (by repeat (first | assumption | exact Below.refl _ _ | (refine below_chain ?_ (by assumption) (by first | omega | (simp <;> omega) | simp)) | (refine Below.alloc ?_ (by first | omega | (simp <;> omega) | simp) _) | (apply below_drewN) | (apply below_drew) | (refine Below.setCell ?_ (by first | omega | (simp <;> omega) | simp) _)))⟩
    · have e : b = false := by rw [← hb]; exact nOk_size (by omega)
      subst e
      clear h hb
      go_enter Tryz.func52, Tryz.ntmps52
      go_wp2_with fail
      go_ret
      exact ⟨rfl, (by repeat (first | assumption | exact Below.refl _ _ | (refine below_chain ?_ (by assumption) (by first | omega | (simp <;> omega) | simp)) | (refine Below.alloc ?_ (by first | omega | (simp <;> omega) | simp) _) | (apply below_drewN) | (apply below_drew) | (refine Below.setCell ?_ (by first | omega | (simp <;> omega) | simp) _)))⟩
  · have e : b = false := by rw [← hb]; exact nOk_size (by omega)
    subst e
    clear h hb
    go_enter Tryz.func52, Tryz.ntmps52
    go_wp2_with fail
    go_ret
    exact ⟨rfl, (by repeat (first | assumption | exact Below.refl _ _ | (refine below_chain ?_ (by assumption) (by first | omega | (simp <;> omega) | simp)) | (refine Below.alloc ?_ (by first | omega | (simp <;> omega) | simp) _) | (apply below_drewN) | (apply below_drew) | (refine Below.setCell ?_ (by first | omega | (simp <;> omega) | simp) _)))⟩
end Go.Proofs.YtoaomjchaihkaaaGreatDoor
namespace Go.Proofs.YtoaomjchaihkaaaGreatDoor
open Go.RowKit
set_option linter.unusedVariables false

theorem rOk_parts {n : Int} {r : Rn} {b : Bool} (h : rOk n r = b) :
    (¬ (0 ≤ r.f ∧ r.f ≤ n - 1) ∧ b = false) ∨ ((0 ≤ r.f ∧ r.f ≤ n - 1) ∧ ¬ (0 ≤ r.t ∧ r.t ≤ n - 1) ∧ b = false) ∨ ((0 ≤ r.f ∧ r.f ≤ n - 1) ∧ (0 ≤ r.t ∧ r.t ≤ n - 1) ∧ r.f = r.t ∧ b = false) ∨
    ((0 ≤ r.f ∧ r.f ≤ n - 1) ∧ (0 ≤ r.t ∧ r.t ≤ n - 1) ∧ r.f ≠ r.t ∧ ¬ (-100000 ≤ r.s ∧ r.s ≤ 100000) ∧ b = false) ∨
    ((0 ≤ r.f ∧ r.f ≤ n - 1) ∧ (0 ≤ r.t ∧ r.t ≤ n - 1) ∧ r.f ≠ r.t ∧ (-100000 ≤ r.s ∧ r.s ≤ 100000) ∧ ¬ (1 ≤ r.g ∧ r.g ≤ 9) ∧ b = false) ∨
    ((0 ≤ r.f ∧ r.f ≤ n - 1) ∧ (0 ≤ r.t ∧ r.t ≤ n - 1) ∧ r.f ≠ r.t ∧ (-100000 ≤ r.s ∧ r.s ≤ 100000) ∧ (1 ≤ r.g ∧ r.g ≤ 9) ∧ b = true) := by
  cases b
  · have : ¬ (0 ≤ r.f ∧ r.f < n ∧ 0 ≤ r.t ∧ r.t < n ∧ r.f ≠ r.t ∧ -100000 ≤ r.s ∧ r.s ≤ 100000 ∧ 1 ≤ r.g ∧ r.g ≤ 9) := by
      rintro ⟨h1, h2, h3, h4, h5, h6, h7, h8, h9⟩
      rw [rOk_of h1 h2 h3 h4 h5 h6 h7 h8 h9] at h; cases h
    simp; omega
  · have := rOk_true h
    simp; omega

set_option maxHeartbeats 2000000 in
theorem sValid (n : Int) (p : Option Addr) (c : Nat) (rs : List Rn) (b : Bool) (w : World) (h : Runs w p rs) (hc : rs.length ≤ 4000000000000000000) (hb : nOk n rs = b) :
    Calls Tryz.prog 67 #[.int .i64 n, .slice p rs.length c] w fun e w' => e = .returned (.bool b) ∧ Below w.heap.size w w' := by
  by_cases h1 : 2 ≤ n ∧ n ≤ 6
  · have cn := fun w => Lib.hid (nIn n 2 6 true w (by simp [h1]))
    have h12 := h1
    obtain ⟨h2, h2'⟩ := h1
    clear h12
    by_cases h3 : rs.length ≤ 12
    · have H := Lib.hid h
      have HB := Lib.hid hb
      clear h hb hc
      go_enter Tryz.func67, Tryz.ntmps67
      go_wp2_with ((go_at_call 50; (with_reducible refine ((cn _).out).mono ?_); rintro e w' ⟨rfl, rfl⟩))
      clear cn
      go_loopw [5] (fun i wr => ∃ k : Nat, k ≤ rs.length ∧ i = .int .i64 k ∧ okTo n rs k ∧ Below w.heap.size w wr) (fun i _ => rs.length - (intOf i).toNat)
      case atStart => exact ⟨0, Nat.zero_le _, rfl, okTo_zero _ _, Below.refl _ _⟩
      case round =>
        obtain ⟨k, hk, rfl, hok, hbr⟩ := hrel
        have hbs := hbr.size
        have HO := Lib.hid hok
        clear hok
        by_cases hlt : k < rs.length
        · obtain ⟨B, o, r, rfl, hr, hB, hat⟩ := (H.out.below hbr).at hlt
          obtain ⟨e0, e1, e2, e3⟩ := hat
          have HR := Lib.hid hr
          clear hr
          obtain ⟨v, hv⟩ : ∃ v, rOk n r = v := ⟨_, rfl⟩
          have HV := Lib.hid hv
          rcases rOk_parts hv with ⟨a1, rfl⟩ | ⟨a1, a2, rfl⟩ | ⟨a1, a2, a3, rfl⟩ | ⟨a1, a2, a3, a4, rfl⟩ | ⟨a1, a2, a3, a4, a5, rfl⟩ | ⟨a1, a2, a3, a4, a5, rfl⟩
          · have c1 := fun w => Lib.hid (nIn r.f 0 (n - 1) false w (by simp only [a1, decide_false]))
            clear hv a1
            go_wp2_with ((go_at_call 50; (with_reducible refine ((c1 _).out).mono ?_); rintro e w' ⟨rfl, rfl⟩))
            go_ret
            exact ⟨ret_bool ((nOk_no HR.out HV.out).symm.trans HB.out), (by repeat (first | assumption | exact Below.refl _ _ | (refine below_chain ?_ (by assumption) (by first | omega | (simp <;> omega) | simp)) | (refine Below.alloc ?_ (by first | omega | (simp <;> omega) | simp) _) | (apply below_drewN) | (apply below_drew) | (refine Below.setCell ?_ (by first | omega | (simp <;> omega) | simp) _)))⟩
          · have c1 := fun w => Lib.hid (nIn r.f 0 (n - 1) true w (by simp only [a1, decide_true, and_self]))
            have c2 := fun w => Lib.hid (nIn r.t 0 (n - 1) false w (by simp only [a2, decide_false]))
            clear hv a1 a2
            go_wp2_with (first | (go_at_call 50; (with_reducible refine ((c1 _).out).mono ?_); rintro e w' ⟨rfl, rfl⟩) | (go_at_call 50; (with_reducible refine ((c2 _).out).mono ?_); rintro e w' ⟨rfl, rfl⟩))
            go_ret
            exact ⟨ret_bool ((nOk_no HR.out HV.out).symm.trans HB.out), (by repeat (first | assumption | exact Below.refl _ _ | (refine below_chain ?_ (by assumption) (by first | omega | (simp <;> omega) | simp)) | (refine Below.alloc ?_ (by first | omega | (simp <;> omega) | simp) _) | (apply below_drewN) | (apply below_drew) | (refine Below.setCell ?_ (by first | omega | (simp <;> omega) | simp) _)))⟩
          · have c1 := fun w => Lib.hid (nIn r.f 0 (n - 1) true w (by simp only [a1, decide_true, and_self]))
            have c2 := fun w => Lib.hid (nIn r.t 0 (n - 1) true w (by simp only [a2, decide_true, and_self]))
            have a3' : (r.f == r.t) = true := by simpa using a3
            clear hv a1 a2 a3
            go_wp2_with (first | (go_at_call 50; (with_reducible refine ((c1 _).out).mono ?_); rintro e w' ⟨rfl, rfl⟩) | (go_at_call 50; (with_reducible refine ((c2 _).out).mono ?_); rintro e w' ⟨rfl, rfl⟩))
            go_ret
            exact ⟨ret_bool ((nOk_no HR.out HV.out).symm.trans HB.out), (by repeat (first | assumption | exact Below.refl _ _ | (refine below_chain ?_ (by assumption) (by first | omega | (simp <;> omega) | simp)) | (refine Below.alloc ?_ (by first | omega | (simp <;> omega) | simp) _) | (apply below_drewN) | (apply below_drew) | (refine Below.setCell ?_ (by first | omega | (simp <;> omega) | simp) _)))⟩
          · have c1 := fun w => Lib.hid (nIn r.f 0 (n - 1) true w (by simp only [a1, decide_true, and_self]))
            have c2 := fun w => Lib.hid (nIn r.t 0 (n - 1) true w (by simp only [a2, decide_true, and_self]))
            have a3' : (r.f == r.t) = false := by simpa using a3
            have c3 := fun w => Lib.hid (nIn r.s (-100000) 100000 false w (by simp only [a4, decide_false]))
            clear hv a1 a2 a3 a4
            go_wp2_with (first | (go_at_call 50; (with_reducible refine ((c1 _).out).mono ?_); rintro e w' ⟨rfl, rfl⟩) | (go_at_call 50; (with_reducible refine ((c2 _).out).mono ?_); rintro e w' ⟨rfl, rfl⟩) | (go_at_call 50; (with_reducible refine ((c3 _).out).mono ?_); rintro e w' ⟨rfl, rfl⟩))
            go_ret
            exact ⟨ret_bool ((nOk_no HR.out HV.out).symm.trans HB.out), (by repeat (first | assumption | exact Below.refl _ _ | (refine below_chain ?_ (by assumption) (by first | omega | (simp <;> omega) | simp)) | (refine Below.alloc ?_ (by first | omega | (simp <;> omega) | simp) _) | (apply below_drewN) | (apply below_drew) | (refine Below.setCell ?_ (by first | omega | (simp <;> omega) | simp) _)))⟩
          · have c1 := fun w => Lib.hid (nIn r.f 0 (n - 1) true w (by simp only [a1, decide_true, and_self]))
            have c2 := fun w => Lib.hid (nIn r.t 0 (n - 1) true w (by simp only [a2, decide_true, and_self]))
            have a3' : (r.f == r.t) = false := by simpa using a3
            have c3 := fun w => Lib.hid (nIn r.s (-100000) 100000 true w (by simp only [a4, decide_true, and_self]))
            have c4 := fun w => Lib.hid (nIn r.g 1 9 false w (by simp only [a5, decide_false]))
            clear hv a1 a2 a3 a4 a5
            go_wp2_with (first | (go_at_call 50; (with_reducible refine ((c1 _).out).mono ?_); rintro e w' ⟨rfl, rfl⟩) | (go_at_call 50; (with_reducible refine ((c2 _).out).mono ?_); rintro e w' ⟨rfl, rfl⟩) | (go_at_call 50; (with_reducible refine ((c3 _).out).mono ?_); rintro e w' ⟨rfl, rfl⟩) | (go_at_call 50; (with_reducible refine ((c4 _).out).mono ?_); rintro e w' ⟨rfl, rfl⟩))
            go_ret
            exact ⟨ret_bool ((nOk_no HR.out HV.out).symm.trans HB.out), (by repeat (first | assumption | exact Below.refl _ _ | (refine below_chain ?_ (by assumption) (by first | omega | (simp <;> omega) | simp)) | (refine Below.alloc ?_ (by first | omega | (simp <;> omega) | simp) _) | (apply below_drewN) | (apply below_drew) | (refine Below.setCell ?_ (by first | omega | (simp <;> omega) | simp) _)))⟩
          · have c1 := fun w => Lib.hid (nIn r.f 0 (n - 1) true w (by simp only [a1, decide_true, and_self]))
            have c2 := fun w => Lib.hid (nIn r.t 0 (n - 1) true w (by simp only [a2, decide_true, and_self]))
            have a3' : (r.f == r.t) = false := by simpa using a3
            have c3 := fun w => Lib.hid (nIn r.s (-100000) 100000 true w (by simp only [a4, decide_true, and_self]))
            have c4 := fun w => Lib.hid (nIn r.g 1 9 true w (by simp only [a5, decide_true, and_self]))
            clear hv a1 a2 a3 a4 a5
            go_wp2_with (first | (go_at_call 50; (with_reducible refine ((c1 _).out).mono ?_); rintro e w' ⟨rfl, rfl⟩) | (go_at_call 50; (with_reducible refine ((c2 _).out).mono ?_); rintro e w' ⟨rfl, rfl⟩) | (go_at_call 50; (with_reducible refine ((c3 _).out).mono ?_); rintro e w' ⟨rfl, rfl⟩) | (go_at_call 50; (with_reducible refine ((c4 _).out).mono ?_); rintro e w' ⟨rfl, rfl⟩))
            go_roundw
            case rel => exact ⟨k + 1, by omega, by go_num, okTo_succ HO.out HR.out HV.out, (by repeat (first | assumption | exact Below.refl _ _ | (refine below_chain ?_ (by assumption) (by first | omega | (simp <;> omega) | simp)) | (refine Below.alloc ?_ (by first | omega | (simp <;> omega) | simp) _) | (apply below_drewN) | (apply below_drew) | (refine Below.setCell ?_ (by first | omega | (simp <;> omega) | simp) _)))⟩
            case measure => simp [intOf]; omega
        · have e : k = rs.length := by omega
          subst e
          go_wp2_with fail
          go_ret
          exact ⟨ret_bool ((nOk_of_to h2 h2' h3 HO.out).symm.trans HB.out), (by repeat (first | assumption | exact Below.refl _ _ | (refine below_chain ?_ (by assumption) (by first | omega | (simp <;> omega) | simp)) | (refine Below.alloc ?_ (by first | omega | (simp <;> omega) | simp) _) | (apply below_drewN) | (apply below_drew) | (refine Below.setCell ?_ (by first | omega | (simp <;> omega) | simp) _)))⟩
    · have e : b = false := by rw [← hb]; exact nOk_size (by omega)
      subst e
      clear h hb
      go_enter Tryz.func67, Tryz.ntmps67
      go_wp2_with ((go_at_call 50; (with_reducible refine ((cn _).out).mono ?_); rintro e w' ⟨rfl, rfl⟩))
      go_ret
      exact ⟨rfl, (by repeat (first | assumption | exact Below.refl _ _ | (refine below_chain ?_ (by assumption) (by first | omega | (simp <;> omega) | simp)) | (refine Below.alloc ?_ (by first | omega | (simp <;> omega) | simp) _) | (apply below_drewN) | (apply below_drew) | (refine Below.setCell ?_ (by first | omega | (simp <;> omega) | simp) _)))⟩
  · have e : b = false := by rw [← hb]; exact nOk_size (by omega)
    have cn := fun w => Lib.hid (nIn n 2 6 false w (by simp only [h1, decide_false]))
    subst e
    clear h hb h1
    go_enter Tryz.func67, Tryz.ntmps67
    go_wp2_with ((go_at_call 50; (with_reducible refine ((cn _).out).mono ?_); rintro e w' ⟨rfl, rfl⟩))
    go_ret
    exact ⟨rfl, (by repeat (first | assumption | exact Below.refl _ _ | (refine below_chain ?_ (by assumption) (by first | omega | (simp <;> omega) | simp)) | (refine Below.alloc ?_ (by first | omega | (simp <;> omega) | simp) _) | (apply below_drewN) | (apply below_drew) | (refine Below.setCell ?_ (by first | omega | (simp <;> omega) | simp) _)))⟩
end Go.Proofs.YtoaomjchaihkaaaGreatDoor
namespace Go.Proofs.YtoaomjchaihkaaaGreatDoor
open Go.RowKit
set_option linter.unusedVariables false

def hOk (z : Int) : Bool := decide (-1000000 ≤ z ∧ z ≤ 1000000)
def htOk (n : Int) (hs : List Int) : Bool := decide ((hs.length : Int) = n) && hs.all hOk
/-- the height at a node -/
def htAt (hs : List Int) (i : Int) : Int := (hs[i.toNat]?).getD 0
def fitR (hs : List Int) (r : Rn) : Bool := decide (htAt hs r.t - htAt hs r.f = r.s)
def nFits (n : Int) (rs : List Rn) (hs : List Int) : Bool := nOk n rs && htOk n hs && rs.all (fitR hs)

theorem htOk_true {n : Int} {hs : List Int} (h : htOk n hs = true) : (hs.length : Int) = n ∧ ∀ (i : Nat) (z : Int), hs[i]? = some z → -1000000 ≤ z ∧ z ≤ 1000000 := by
  simp [htOk, hOk] at h
  exact ⟨h.1, fun i z hi => h.2 z (List.mem_of_getElem? hi)⟩
theorem htOk_of {n : Int} {hs : List Int} (h1 : (hs.length : Int) = n) (h2 : ∀ (i : Nat) (z : Int), i < hs.length → hs[i]? = some z → hOk z = true) : htOk n hs = true := by
  simp only [htOk, h1, decide_true, Bool.true_and, List.all_eq_true]
  intro z hz
  obtain ⟨i, hi⟩ := List.getElem?_of_mem hz
  exact h2 i z (List.getElem?_eq_some_iff.1 hi).1 hi
theorem htOk_no {n : Int} {hs : List Int} {i : Nat} {z : Int} (hi : hs[i]? = some z) (h : hOk z = false) : htOk n hs = false := by
  rw [Bool.eq_false_iff]; intro hn
  simp only [htOk, Bool.and_eq_true, List.all_eq_true] at hn
  rw [hn.2 z (List.mem_of_getElem? hi)] at h; cases h
def htTo (hs : List Int) (k : Nat) : Prop := ∀ (i : Nat) (z : Int), i < k → hs[i]? = some z → hOk z = true
theorem htTo_succ {hs : List Int} {k : Nat} {z : Int} (h : htTo hs k) (hz : hs[k]? = some z) (hk : hOk z = true) : htTo hs (k + 1) := fun i z' hi hz' => by
  by_cases e : i = k
  · subst e; rw [hz] at hz'; cases hz'; exact hk
  · exact h i z' (by omega) hz'
def fitTo (hs : List Int) (rs : List Rn) (k : Nat) : Prop := ∀ (i : Nat) (r : Rn), i < k → rs[i]? = some r → fitR hs r = true
theorem fitTo_succ {hs : List Int} {rs : List Rn} {k : Nat} {r : Rn} (h : fitTo hs rs k) (hr : rs[k]? = some r) (hk : fitR hs r = true) : fitTo hs rs (k + 1) := fun i r' hi hr' => by
  by_cases e : i = k
  · subst e; rw [hr] at hr'; cases hr'; exact hk
  · exact h i r' (by omega) hr'
theorem nFits_of {n : Int} {rs : List Rn} {hs : List Int} (h1 : nOk n rs = true) (h2 : htOk n hs = true) (h3 : fitTo hs rs rs.length) : nFits n rs hs = true := by
  simp only [nFits, h1, h2, Bool.true_and, List.all_eq_true]
  intro r hr
  obtain ⟨i, hi⟩ := List.getElem?_of_mem hr
  exact h3 i r (List.getElem?_eq_some_iff.1 hi).1 hi
theorem nFits_true {n : Int} {rs : List Rn} {hs : List Int} (h : nFits n rs hs = true) : nOk n rs = true ∧ htOk n hs = true ∧ ∀ (i : Nat) (r : Rn), rs[i]? = some r → htAt hs r.t - htAt hs r.f = r.s := by
  simp only [nFits, Bool.and_eq_true, List.all_eq_true] at h
  exact ⟨h.1.1, h.1.2, fun i r hi => by simpa [fitR] using h.2 r (List.mem_of_getElem? hi)⟩
theorem nFits_no {n : Int} {rs : List Rn} {hs : List Int} {i : Nat} {r : Rn} (hi : rs[i]? = some r) (h : fitR hs r = false) : nFits n rs hs = false := by
  rw [Bool.eq_false_iff]; intro hn
  have := (nFits_true hn).2.2 i r hi
  simp [fitR] at h; omega
theorem nFits_noH {n : Int} {rs : List Rn} {hs : List Int} (h : htOk n hs = false) : nFits n rs hs = false := by simp [nFits, h]
theorem nFits_noN {n : Int} {rs : List Rn} {hs : List Int} (h : nOk n rs = false) : nFits n rs hs = false := by simp [nFits, h]

theorem node_nat {n : Int} {hs : List Int} {x : Int} (hh : htOk n hs = true) (h0 : 0 ≤ x) (h1 : x < n) : ∃ (k : Nat) (z : Int), x = (k : Int) ∧ k < hs.length ∧ hs[k]? = some z ∧ -1000000 ≤ z ∧ z ≤ 1000000 ∧ htAt hs x = z := by
  obtain ⟨hl, hz⟩ := htOk_true hh
  have hlt : x.toNat < hs.length := by omega
  have e : hs[x.toNat]? = some hs[x.toNat] := List.getElem?_eq_getElem hlt
  obtain ⟨a, b⟩ := hz _ _ e
  exact ⟨x.toNat, _, by omega, hlt, e, a, b, by unfold htAt; rw [e]; rfl⟩

end Go.Proofs.YtoaomjchaihkaaaGreatDoor
namespace Go.Proofs.YtoaomjchaihkaaaGreatDoor
open Go.RowKit
set_option linter.unusedVariables false

end Go.Proofs.YtoaomjchaihkaaaGreatDoor
namespace Go.Proofs.YtoaomjchaihkaaaGreatDoor
open Go.RowKit
set_option linter.unusedVariables false

theorem runs_not_nil (a : Addr) (l c : Nat) (w : World) : (binOp .eql 23 (.slice (some a) l c) (.slice none 0 0)).run Tryz.prog w = .ok (.bool false) w := by
  have h := run_equal_slice_nil (P := Tryz.prog) w 23 42 (some a) l c Tryz.underlying23
  simp [binOp, h]
def turnR (r : Rn) : Rn := ⟨r.t, r.f, -r.s, r.g⟩
theorem turned_is (f t s g : Int) (w : World) (h1 : -100000 ≤ s) (h2 : s ≤ 100000) :
    Calls Tryz.prog 43 #[.agg #[.int .i64 f, .int .i64 t, .int .i64 s, .int .i64 g]] w fun e w' => e = .returned (.agg #[.int .i64 t, .int .i64 f, .int .i64 (-s), .int .i64 g]) ∧ Below w.heap.size w w' := by
  go_enter Tryz.func43, Tryz.ntmps43
  go_wp2
  exact bodyPost_ret (v := .agg #[.int .i64 t, .int .i64 f, .int .i64 (-s), .int .i64 g]) (by simp [results, Tryz.results43, go_sem]) rfl ⟨rfl, (by repeat (first | assumption | exact Below.refl _ _ | (refine below_chain ?_ (by assumption) (by first | omega | (simp <;> omega) | simp)) | (refine Below.alloc ?_ (by first | omega | (simp <;> omega) | simp) _) | (apply below_drewN) | (apply below_drew) | (refine Below.setCell ?_ (by first | omega | (simp <;> omega) | simp) _)))⟩

theorem runs_cells {w : World} {B o : Nat} {rs : List Rn} (h : Runs w (some ⟨B, o, none⟩) rs) : ∀ (j : Nat) (z : Int), (flat rs)[j]? = some z → w.cell? ((⟨B, o, none⟩ : Addr).add j) = some (.int .i64 z) := by
  rcases h with rfl | ⟨B', o', e, hB, hc⟩
  · intro j z h; simp [flat] at h
  · simp at e
    obtain ⟨rfl, rfl⟩ := e
    intro j z hj
    rw [Go.WideShapes.add_plain]
    have hlt : j < rs.length * 4 := by have := (List.getElem?_eq_some_iff.1 hj).1; rw [flat_len] at this; exact this
    have hi : j / 4 < rs.length := by omega
    obtain ⟨x0, x1, x2, x3⟩ := hc (j / 4) _ (List.getElem?_eq_getElem hi)
    obtain ⟨y0, y1, y2, y3⟩ := flat_at (List.getElem?_eq_getElem hi)
    rcases (show j % 4 = 0 ∨ j % 4 = 1 ∨ j % 4 = 2 ∨ j % 4 = 3 by omega) with e | e | e | e
    · have ej : j = j / 4 * 4 := by omega
      rw [ej] at hj ⊢; rw [y0] at hj; cases hj; exact x0
    · have ej : j = j / 4 * 4 + 1 := by omega
      rw [ej] at hj ⊢; rw [y1] at hj; cases hj; exact x1
    · have ej : j = j / 4 * 4 + 2 := by omega
      rw [ej] at hj ⊢; rw [y2] at hj; cases hj; exact x2
    · have ej : j = j / 4 * 4 + 3 := by omega
      rw [ej] at hj ⊢; rw [y3] at hj; cases hj; exact x3

/-- the answer of a call that makes a new list of runs -/
def NewRuns (w : World) (rs : List Rn) (v : Value) (w' : World) : Prop :=
  ∃ g cap, v = .slice (some ⟨g, 0, none⟩) rs.length cap ∧ w.heap.size ≤ g ∧ Own w' g 42 4 rs.length cap (flat rs) ∧ Below w.heap.size w w'
set_option maxHeartbeats 1000000 in
theorem clone_is (B o c : Nat) (rs : List Rn) (w : World) (h : Runs w (some ⟨B, o, none⟩) rs) (hl : rs.length ≤ 4194304) :
    Calls Tryz.prog 53 #[.slice (some ⟨B, o, none⟩) rs.length c] w fun e w' => ∃ v, e = .returned v ∧ NewRuns w rs v w' := by
  have H := Lib.hid h
  clear h
  have hnn := fun w => runs_not_nil ⟨B, o, none⟩ rs.length c w
  go_enter Tryz.func53, Tryz.ntmps53
  go_wp2_with (at_builtin; refine wp_append _ rfl _ _ 23 rfl 42 _ 4 32 Tryz.underlying23 info_run rfl (by decide) (by decide) _ 0 0 [] rfl (Own.empty w _ 4) _ _ _ (flat rs) rfl (flat_len rs) (runs_cells (H.out.alloc _)) (by omega) ?_; intro g' cap' w' hown hg hloc hsz)
  simp only [Nat.zero_add, List.nil_append] at hown
  have HO := Lib.hid (And.intro hown (And.intro hg hloc))
  clear hown hg hloc
  go_wp2_with fail
  go_ret
  obtain ⟨hown, hg, hloc⟩ := HO.out
  exact ⟨_, rfl, g', cap', by simp, by rcases hloc with rfl | rfl <;> simp, hown, below_gr ((Below.refl _ _).alloc (Nat.le_refl _) _) hg (Nat.le_refl _) (by simp)⟩

theorem hasRun_nat {rs : List Rn} {k : Int} (h : 0 ≤ k ∧ k < rs.length) : ∃ (j : Nat) (r : Rn), k = (j : Int) ∧ j < rs.length ∧ rs[j]? = some r :=
  ⟨k.toNat, rs[k.toNat]'(by omega), by omega, by omega, List.getElem?_eq_getElem (by omega)⟩

set_option maxHeartbeats 2000000 in
theorem iBack_yes (n : Int) (p : Option Addr) (c : Nat) (rs : List Rn) (j : Nat) (r : Rn) (w : World) (h : Runs w p rs) (h1 : nOk n rs = true) (hr : rs[j]? = some r) :
    Calls Tryz.prog 20 #[.int .i64 n, .slice p rs.length c, .int .i64 j] w fun e w' => ∃ v, e = .returned (.tuple #[v, .bool true]) ∧ NewRuns w (rs.set j (turnR r)) v w' := by
  have hj := (List.getElem?_eq_some_iff.1 hr).1
  obtain ⟨-, -, hl12, hall⟩ := nOk_true h1
  obtain ⟨-, -, -, -, -, s1, s2, -, -⟩ := rOk_true (hall _ _ hr)
  have c1 := fun w h => Lib.hid (iValid n p c rs true w h (by omega) h1)
  have c2 := fun w => Lib.hid (nHasRun p rs.length c j true w (by simp; omega))
  have HR := Lib.hid hr
  clear h1 hr hall
  obtain ⟨B, o, rfl⟩ : ∃ B o, p = some ⟨B, o, none⟩ := by
    obtain ⟨B, o, _, e, _⟩ := h.at hj
    exact ⟨B, o, e⟩
  have H := Lib.hid h
  clear h
  have hjl : (j : Int) < (rs.length : Int) := by omega
  go_enter Tryz.func20, Tryz.ntmps20
  go_wp2_with (first | (go_at_call 52; (with_reducible refine ((c1 _ ?_).out).mono ?_); (focus ((exact H.out); done)); rintro e wa ⟨rfl, hb_wa⟩; have hs_wa := hb_wa.size; (try simp at hs_wa)) | (go_at_call 48; (with_reducible refine ((c2 _).out).mono ?_); rintro e w' ⟨rfl, rfl⟩) | (go_at_call 53; (with_reducible refine (clone_is B o c rs _ ?_ (by omega)).mono ?_); (focus (exact H.out.below (by repeat (first | assumption | exact Below.refl _ _ | (refine below_chain ?_ (by assumption) (by first | omega | (simp <;> omega) | simp)) | (refine Below.alloc ?_ (by first | omega | (simp <;> omega) | simp) _) | (apply below_drewN) | (apply below_drew) | (refine Below.setCell ?_ (by first | omega | (simp <;> omega) | simp) _))); done)); rintro e wb ⟨v, rfl, g, cap, rfl, hgw, hown, hb_wb⟩; have hs_wb := hb_wb.size; have hlo := hown.lt; obtain ⟨x0, x1, x2, x3⟩ := hown.runAt HR.out; have hf0 := hown.frozen (j * 4); have hf1 := hown.frozen (j * 4 + 1); have hf2 := hown.frozen (j * 4 + 2); have hf3 := hown.frozen (j * 4 + 3); have HO := Lib.hid hown; clear hown) | ((go_at_call 43; (with_reducible refine (turned_is _ _ _ _ _ s1 s2).mono ?_); rintro e wt ⟨rfl, hb_wt⟩; have hs_wt := hb_wt.size; (try simp at hs_wt)); obtain ⟨hcn, hfn⟩ := bcell hb_wt))
  refine bodyPost_ret (v := .tuple #[.slice (some ⟨g, 0, none⟩) rs.length cap, .bool true]) (by simp [results, Tryz.results20, go_sem]) rfl ⟨_, rfl, g, cap, by simp, by omega, ?_, ?_⟩
  · have := (HO.out.below hb_wt).set4 hj (turnR r)
    simpa [turnR] using this
  · exact (by repeat (first | assumption | exact Below.refl _ _ | (refine below_chain ?_ (by assumption) (by first | omega | (simp <;> omega) | simp)) | (refine Below.alloc ?_ (by first | omega | (simp <;> omega) | simp) _) | (apply below_drewN) | (apply below_drew) | (refine Below.setCell ?_ (by first | omega | (simp <;> omega) | simp) _)))

set_option maxHeartbeats 1000000 in
theorem iBack_no (n k : Int) (p : Option Addr) (c : Nat) (rs : List Rn) (w : World) (h : Runs w p rs) (hl : rs.length ≤ 4000000000000000000) (hno : ¬ (nOk n rs = true ∧ 0 ≤ k ∧ k < rs.length)) :
    Calls Tryz.prog 20 #[.int .i64 n, .slice p rs.length c, .int .i64 k] w fun e w' => e = .returned (.tuple #[.slice none 0 0, .bool false]) ∧ Below w.heap.size w w' := by
  have H := Lib.hid h
  clear h
  obtain ⟨b, hb⟩ : ∃ b, nOk n rs = b := ⟨_, rfl⟩
  have c1 := fun w h => Lib.hid (iValid n p c rs b w h hl hb)
  cases b
  · clear hb hno
    go_enter Tryz.func20, Tryz.ntmps20
    go_wp2_with ((go_at_call 52; (with_reducible refine ((c1 _ ?_).out).mono ?_); (focus ((exact H.out); done)); rintro e wa ⟨rfl, hb_wa⟩; have hs_wa := hb_wa.size; (try simp at hs_wa)))
    exact bodyPost_ret (v := .tuple #[.slice none 0 0, .bool false]) (by simp [results, Tryz.results20, go_sem]) rfl ⟨rfl, (by repeat (first | assumption | exact Below.refl _ _ | (refine below_chain ?_ (by assumption) (by first | omega | (simp <;> omega) | simp)) | (refine Below.alloc ?_ (by first | omega | (simp <;> omega) | simp) _) | (apply below_drewN) | (apply below_drew) | (refine Below.setCell ?_ (by first | omega | (simp <;> omega) | simp) _)))⟩
  · have c2 := fun w => Lib.hid (nHasRun p rs.length c k false w (by simp [hb] at hno; simp; omega))
    clear hb hno
    go_enter Tryz.func20, Tryz.ntmps20
    go_wp2_with (first | (go_at_call 52; (with_reducible refine ((c1 _ ?_).out).mono ?_); (focus ((exact H.out); done)); rintro e wa ⟨rfl, hb_wa⟩; have hs_wa := hb_wa.size; (try simp at hs_wa)) | (go_at_call 48; (with_reducible refine ((c2 _).out).mono ?_); rintro e w' ⟨rfl, rfl⟩))
    exact bodyPost_ret (v := .tuple #[.slice none 0 0, .bool false]) (by simp [results, Tryz.results20, go_sem]) rfl ⟨rfl, (by repeat (first | assumption | exact Below.refl _ _ | (refine below_chain ?_ (by assumption) (by first | omega | (simp <;> omega) | simp)) | (refine Below.alloc ?_ (by first | omega | (simp <;> omega) | simp) _) | (apply below_drewN) | (apply below_drew) | (refine Below.setCell ?_ (by first | omega | (simp <;> omega) | simp) _)))⟩
end Go.Proofs.YtoaomjchaihkaaaGreatDoor
namespace Go.Proofs.YtoaomjchaihkaaaGreatDoor
open Go.RowKit
set_option linter.unusedVariables false

theorem made_runs (w : World) (n : Nat) (hn : n ≤ 1048576) : (Instr.makeSlice 23 (.int .i64 (n : Int)) (.int .i64 (n : Int))).run Tryz.prog w = .ok (.slice (some ⟨w.heap.size, 0, none⟩) n n) (w.alloc (.cells (madeCells (Array.replicate 4 (.int .i64 0)) (n * 4)) 42)) := by
  obtain ⟨i, hi, hzz⟩ := Option.map_eq_some_iff.1 info_run
  simp only [Prod.mk.injEq] at hzz
  obtain ⟨hz, hs, hb⟩ := hzz
  have := run_make (P := Tryz.prog) w 23 42 i _ Tryz.underlying23 hi hz .i64 .i64 n n (by omega) (Int.le_refl _) (by rw [hb]; omega) (by omega)
  simp only [Int.toNat_natCast, hs] at this
  exact this
/-- the first j of the cells marked from 1 on -/
def mk (j : Nat) (xs : List Int) : List Int := (List.range j).map (fun (i : Nat) => 1 + (i : Int)) ++ xs.drop j
theorem mk_zero (xs : List Int) : mk 0 xs = xs := by simp [mk]
theorem mk_len {j : Nat} {xs : List Int} (h : j ≤ xs.length) : (mk j xs).length = xs.length := by simp [mk]; omega
theorem mk_set {j : Nat} {xs : List Int} (h : j < xs.length) : (mk j xs).set j (1 + (j : Int)) = mk (j + 1) xs := by
  unfold mk
  rw [List.set_append_right _ _ (by simp), List.range_succ, List.map_append, List.append_assoc]
  congr 1
  rw [List.drop_eq_getElem_cons h, show j - ((List.range j).map (fun (i : Nat) => 1 + (i : Int))).length = 0 by simp]
  rfl
theorem mk_at {j n : Nat} {xs : List Int} (h : xs.length = n) (hj : j < n) : (mk n xs)[j]? = some (1 + (j : Int)) := by
  unfold mk
  rw [List.getElem?_append_left (by simpa using hj)]
  simp [hj]
theorem mk4_at {k n : Nat} {xs : List Int} (h : xs.length = n * 4) (hk : k < n) : (mk (n * 4) xs)[k * 4]? = some (1 + (k : Int) * 4) ∧ (mk (n * 4) xs)[k * 4 + 1]? = some (1 + (k : Int) * 4 + 1) ∧ (mk (n * 4) xs)[k * 4 + 2]? = some (1 + (k : Int) * 4 + 1 + 1) ∧ (mk (n * 4) xs)[k * 4 + 3]? = some (1 + (k : Int) * 4 + 1 + 1 + 1) := by
  refine ⟨?_, ?_, ?_, ?_⟩ <;> rw [mk_at h (by omega)] <;> congr 1 <;> omega
end Go.Proofs.YtoaomjchaihkaaaGreatDoor
