/-
  What the reference model's NetValid answers.
-/
import Derived.Test.YtimghdffmdcheaaNb
namespace Go.Proofs.Ytimghdffmdcheaa
open Go.RowKit
set_option linter.unusedVariables false

theorem rOk_parts {n : Int} {r : Rn} {b : Bool} (h : rOk n r = b) :
    (¬ (0 ≤ r.f ∧ r.f ≤ n - 1) ∧ b = false) ∨ ((0 ≤ r.f ∧ r.f ≤ n - 1) ∧ ¬ (0 ≤ r.t ∧ r.t ≤ n - 1) ∧ b = false) ∨ ((0 ≤ r.f ∧ r.f ≤ n - 1) ∧ (0 ≤ r.t ∧ r.t ≤ n - 1) ∧ r.f = r.t ∧ b = false) ∨
    ((0 ≤ r.f ∧ r.f ≤ n - 1) ∧ (0 ≤ r.t ∧ r.t ≤ n - 1) ∧ r.f ≠ r.t ∧ ¬ (-100000 ≤ r.s ∧ r.s ≤ 100000) ∧ b = false) ∨
    ((0 ≤ r.f ∧ r.f ≤ n - 1) ∧ (0 ≤ r.t ∧ r.t ≤ n - 1) ∧ r.f ≠ r.t ∧ (-100000 ≤ r.s ∧ r.s ≤ 100000) ∧ ¬ (1 ≤ r.g ∧ r.g ≤ 9) ∧ b = false) ∨
    ((0 ≤ r.f ∧ r.f ≤ n - 1) ∧ (0 ≤ r.t ∧ r.t ≤ n - 1) ∧ r.f ≠ r.t ∧ (-100000 ≤ r.s ∧ r.s ≤ 100000) ∧ (1 ≤ r.g ∧ r.g ≤ 9) ∧ b = true) := by
  cases b
  · have : ¬ (0 ≤ r.f ∧ r.f < n ∧ 0 ≤ r.t ∧ r.t < n ∧ r.f ≠ r.t ∧ -100000 ≤ r.s ∧ r.s ≤ 100000 ∧ 1 ≤ r.g ∧ r.g ≤ 9) := by
      rintro ⟨h1, h2, h3, h4, h5, h6, h7, h8, h9⟩
      rw [rOk_of h1 h2 h3 h4 h5 h6 h7 h8 h9] at h; cases h
    simp; omega
  · have := rOk_true h
    simp; omega

set_option maxHeartbeats 2000000 in
theorem sValid (n : Int) (p : Option Addr) (c : Nat) (rs : List Rn) (b : Bool) (w : World) (h : Runs w p rs) (hc : rs.length ≤ 4000000000000000000) (hb : nOk n rs = b) :
    Calls Try.prog 53 #[.int .i64 n, .slice p rs.length c] w fun e w' => e = .returned (.bool b) ∧ Below w.heap.size w w' := by
  by_cases h1 : 2 ≤ n ∧ n ≤ 6
  · have cn := fun w => Lib.hid (nIn n 2 6 true w (by simp [h1]))
    have h12 := h1
    obtain ⟨h2, h2'⟩ := h1
    clear h12
    by_cases h3 : rs.length ≤ 12
    · have H := Lib.hid h
      have HB := Lib.hid hb
      clear h hb hc
      go_enter Try.func53, Try.ntmps53
      go_wp2_with ((go_at_call 54; (with_reducible refine ((cn _).out).mono ?_); rintro e w' ⟨rfl, rfl⟩))
      clear cn
      go_loopw [5] (fun i wr => ∃ k : Nat, k ≤ rs.length ∧ i = .int .i64 k ∧ okTo n rs k ∧ Below w.heap.size w wr) (fun i _ => rs.length - (intOf i).toNat)
      case atStart => exact ⟨0, Nat.zero_le _, rfl, okTo_zero _ _, Below.refl _ _⟩
      case round =>
        obtain ⟨k, hk, rfl, hok, hbr⟩ := hrel
        have hbs := hbr.size
        have HO := Lib.hid hok
        clear hok
        by_cases hlt : k < rs.length
        · obtain ⟨B, o, r, rfl, hr, hB, hat⟩ := (H.out.below hbr).at hlt
          obtain ⟨e0, e1, e2, e3⟩ := hat
          have HR := Lib.hid hr
          clear hr
          obtain ⟨v, hv⟩ : ∃ v, rOk n r = v := ⟨_, rfl⟩
          have HV := Lib.hid hv
          rcases rOk_parts hv with ⟨a1, rfl⟩ | ⟨a1, a2, rfl⟩ | ⟨a1, a2, a3, rfl⟩ | ⟨a1, a2, a3, a4, rfl⟩ | ⟨a1, a2, a3, a4, a5, rfl⟩ | ⟨a1, a2, a3, a4, a5, rfl⟩
          · have c1 := fun w => Lib.hid (nIn r.f 0 (n - 1) false w (by simp only [a1, decide_false]))
            clear hv a1
            go_wp2_with ((go_at_call 54; (with_reducible refine ((c1 _).out).mono ?_); rintro e w' ⟨rfl, rfl⟩))
            go_ret
            exact ⟨ret_bool ((nOk_no HR.out HV.out).symm.trans HB.out), (by repeat (first | assumption | exact Below.refl _ _ | (refine below_chain ?_ (by assumption) (by first | omega | (simp <;> omega) | simp)) | (refine Below.alloc ?_ (by first | omega | (simp <;> omega) | simp) _) | (apply below_drewN) | (apply below_drew) | (refine Below.setCell ?_ (by first | omega | (simp <;> omega) | simp) _)))⟩
          · have c1 := fun w => Lib.hid (nIn r.f 0 (n - 1) true w (by simp only [a1, decide_true, and_self]))
            have c2 := fun w => Lib.hid (nIn r.t 0 (n - 1) false w (by simp only [a2, decide_false]))
            clear hv a1 a2
            go_wp2_with (first | (go_at_call 54; (with_reducible refine ((c1 _).out).mono ?_); rintro e w' ⟨rfl, rfl⟩) | (go_at_call 54; (with_reducible refine ((c2 _).out).mono ?_); rintro e w' ⟨rfl, rfl⟩))
            go_ret
            exact ⟨ret_bool ((nOk_no HR.out HV.out).symm.trans HB.out), (by repeat (first | assumption | exact Below.refl _ _ | (refine below_chain ?_ (by assumption) (by first | omega | (simp <;> omega) | simp)) | (refine Below.alloc ?_ (by first | omega | (simp <;> omega) | simp) _) | (apply below_drewN) | (apply below_drew) | (refine Below.setCell ?_ (by first | omega | (simp <;> omega) | simp) _)))⟩
          · have c1 := fun w => Lib.hid (nIn r.f 0 (n - 1) true w (by simp only [a1, decide_true, and_self]))
            have c2 := fun w => Lib.hid (nIn r.t 0 (n - 1) true w (by simp only [a2, decide_true, and_self]))
            have a3' : (r.f == r.t) = true := by simpa using a3
            clear hv a1 a2 a3
            go_wp2_with (first | (go_at_call 54; (with_reducible refine ((c1 _).out).mono ?_); rintro e w' ⟨rfl, rfl⟩) | (go_at_call 54; (with_reducible refine ((c2 _).out).mono ?_); rintro e w' ⟨rfl, rfl⟩))
            go_ret
            exact ⟨ret_bool ((nOk_no HR.out HV.out).symm.trans HB.out), (by repeat (first | assumption | exact Below.refl _ _ | (refine below_chain ?_ (by assumption) (by first | omega | (simp <;> omega) | simp)) | (refine Below.alloc ?_ (by first | omega | (simp <;> omega) | simp) _) | (apply below_drewN) | (apply below_drew) | (refine Below.setCell ?_ (by first | omega | (simp <;> omega) | simp) _)))⟩
          · have c1 := fun w => Lib.hid (nIn r.f 0 (n - 1) true w (by simp only [a1, decide_true, and_self]))
            have c2 := fun w => Lib.hid (nIn r.t 0 (n - 1) true w (by simp only [a2, decide_true, and_self]))
            have a3' : (r.f == r.t) = false := by simpa using a3
            have c3 := fun w => Lib.hid (nIn r.s (-100000) 100000 false w (by simp only [a4, decide_false]))
            clear hv a1 a2 a3 a4
            go_wp2_with (first | (go_at_call 54; (with_reducible refine ((c1 _).out).mono ?_); rintro e w' ⟨rfl, rfl⟩) | (go_at_call 54; (with_reducible refine ((c2 _).out).mono ?_); rintro e w' ⟨rfl, rfl⟩) | (go_at_call 54; (with_reducible refine ((c3 _).out).mono ?_); rintro e w' ⟨rfl, rfl⟩))
            go_ret
            exact ⟨ret_bool ((nOk_no HR.out HV.out).symm.trans HB.out), (by repeat (first | assumption | exact Below.refl _ _ | (refine below_chain ?_ (by assumption) (by first | omega | (simp <;> omega) | simp)) | (refine Below.alloc ?_ (by first | omega | (simp <;> omega) | simp) _) | (apply below_drewN) | (apply below_drew) | (refine Below.setCell ?_ (by first | omega | (simp <;> omega) | simp) _)))⟩
          · have c1 := fun w => Lib.hid (nIn r.f 0 (n - 1) true w (by simp only [a1, decide_true, and_self]))
            have c2 := fun w => Lib.hid (nIn r.t 0 (n - 1) true w (by simp only [a2, decide_true, and_self]))
            have a3' : (r.f == r.t) = false := by simpa using a3
            have c3 := fun w => Lib.hid (nIn r.s (-100000) 100000 true w (by simp only [a4, decide_true, and_self]))
            have c4 := fun w => Lib.hid (nIn r.g 1 9 false w (by simp only [a5, decide_false]))
            clear hv a1 a2 a3 a4 a5
            go_wp2_with (first | (go_at_call 54; (with_reducible refine ((c1 _).out).mono ?_); rintro e w' ⟨rfl, rfl⟩) | (go_at_call 54; (with_reducible refine ((c2 _).out).mono ?_); rintro e w' ⟨rfl, rfl⟩) | (go_at_call 54; (with_reducible refine ((c3 _).out).mono ?_); rintro e w' ⟨rfl, rfl⟩) | (go_at_call 54; (with_reducible refine ((c4 _).out).mono ?_); rintro e w' ⟨rfl, rfl⟩))
            go_ret
            exact ⟨ret_bool ((nOk_no HR.out HV.out).symm.trans HB.out), (by repeat (first | assumption | exact Below.refl _ _ | (refine below_chain ?_ (by assumption) (by first | omega | (simp <;> omega) | simp)) | (refine Below.alloc ?_ (by first | omega | (simp <;> omega) | simp) _) | (apply below_drewN) | (apply below_drew) | (refine Below.setCell ?_ (by first | omega | (simp <;> omega) | simp) _)))⟩
          · have c1 := fun w => Lib.hid (nIn r.f 0 (n - 1) true w (by simp only [a1, decide_true, and_self]))
            have c2 := fun w => Lib.hid (nIn r.t 0 (n - 1) true w (by simp only [a2, decide_true, and_self]))
            have a3' : (r.f == r.t) = false := by simpa using a3
            have c3 := fun w => Lib.hid (nIn r.s (-100000) 100000 true w (by simp only [a4, decide_true, and_self]))
            have c4 := fun w => Lib.hid (nIn r.g 1 9 true w (by simp only [a5, decide_true, and_self]))
            clear hv a1 a2 a3 a4 a5
            go_wp2_with (first | (go_at_call 54; (with_reducible refine ((c1 _).out).mono ?_); rintro e w' ⟨rfl, rfl⟩) | (go_at_call 54; (with_reducible refine ((c2 _).out).mono ?_); rintro e w' ⟨rfl, rfl⟩) | (go_at_call 54; (with_reducible refine ((c3 _).out).mono ?_); rintro e w' ⟨rfl, rfl⟩) | (go_at_call 54; (with_reducible refine ((c4 _).out).mono ?_); rintro e w' ⟨rfl, rfl⟩))
            go_roundw
            case rel => exact ⟨k + 1, by omega, by go_num, okTo_succ HO.out HR.out HV.out, (by repeat (first | assumption | exact Below.refl _ _ | (refine below_chain ?_ (by assumption) (by first | omega | (simp <;> omega) | simp)) | (refine Below.alloc ?_ (by first | omega | (simp <;> omega) | simp) _) | (apply below_drewN) | (apply below_drew) | (refine Below.setCell ?_ (by first | omega | (simp <;> omega) | simp) _)))⟩
            case measure => simp [intOf]; omega
        · have e : k = rs.length := by omega
          subst e
          go_wp2_with fail
          go_ret
          exact ⟨ret_bool ((nOk_of_to h2 h2' h3 HO.out).symm.trans HB.out), (by repeat (first | assumption | exact Below.refl _ _ | (refine below_chain ?_ (by assumption) (by first | omega | (simp <;> omega) | simp)) | (refine Below.alloc ?_ (by first | omega | (simp <;> omega) | simp) _) | (apply below_drewN) | (apply below_drew) | (refine Below.setCell ?_ (by first | omega | (simp <;> omega) | simp) _)))⟩
    · have e : b = false := by rw [← hb]; exact nOk_size (by omega)
      subst e
      clear h hb
      go_enter Try.func53, Try.ntmps53
      go_wp2_with ((go_at_call 54; (with_reducible refine ((cn _).out).mono ?_); rintro e w' ⟨rfl, rfl⟩))
      go_ret
      exact ⟨rfl, (by repeat (first | assumption | exact Below.refl _ _ | (refine below_chain ?_ (by assumption) (by first | omega | (simp <;> omega) | simp)) | (refine Below.alloc ?_ (by first | omega | (simp <;> omega) | simp) _) | (apply below_drewN) | (apply below_drew) | (refine Below.setCell ?_ (by first | omega | (simp <;> omega) | simp) _)))⟩
  · have e : b = false := by rw [← hb]; exact nOk_size (by omega)
    have cn := fun w => Lib.hid (nIn n 2 6 false w (by simp only [h1, decide_false]))
    subst e
    clear h hb h1
    go_enter Try.func53, Try.ntmps53
    go_wp2_with ((go_at_call 54; (with_reducible refine ((cn _).out).mono ?_); rintro e w' ⟨rfl, rfl⟩))
    go_ret
    exact ⟨rfl, (by repeat (first | assumption | exact Below.refl _ _ | (refine below_chain ?_ (by assumption) (by first | omega | (simp <;> omega) | simp)) | (refine Below.alloc ?_ (by first | omega | (simp <;> omega) | simp) _) | (apply below_drewN) | (apply below_drew) | (refine Below.setCell ?_ (by first | omega | (simp <;> omega) | simp) _)))⟩
end Go.Proofs.Ytimghdffmdcheaa
