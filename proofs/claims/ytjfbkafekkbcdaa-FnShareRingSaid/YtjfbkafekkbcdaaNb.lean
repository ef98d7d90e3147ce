/-
  What NetValid answers, in both programs.
-/
import Derived.Test.YtjfbkafekkbcdaaNa
namespace Go.Proofs.Ytjfbkafekkbcdaa
open Go.RowKit
set_option linter.unusedVariables false

theorem nRunValid (n : Int) (f t s g : Int) (b : Bool) (w : World) (hb : rOk n ⟨f, t, s, g⟩ = b) :
    Calls Try.prog 56 #[.int .i64 n, .agg #[.int .i64 f, .int .i64 t, .int .i64 s, .int .i64 g]] w fun e w' => e = .returned (.bool b) ∧ Below w.heap.size w w' := by
  by_cases h1 : 0 ≤ f ∧ f < n
  · by_cases h2 : 0 ≤ t ∧ t < n
    · by_cases h3 : f = t
      · have hc : b = false := by rw [← hb]; simp [rOk, h3]
        have c1 := fun w => Lib.hid (nHas n f true w (by simp [h1]))
        subst hc h3
        clear hb h1 h2
        go_enter Try.func56, Try.ntmps56
        go_wp2_with ((go_at_call 66; (with_reducible refine ((c1 _).out).mono ?_); rintro e w' ⟨rfl, rfl⟩))
        go_ret
        exact ⟨rfl, (by repeat (first | assumption | exact Below.refl _ _ | (refine below_chain ?_ (by assumption) (by first | omega | (simp <;> omega) | simp)) | (refine Below.alloc ?_ (by first | omega | (simp <;> omega) | simp) _) | (apply below_drewN) | (apply below_drew) | (refine Below.setCell ?_ (by first | omega | (simp <;> omega) | simp) _)))⟩
      · have h3' : (f == t) = false := by simpa using h3
        have c1 := fun w => Lib.hid (nHas n f true w (by simp [h1]))
        have c2 := fun w => Lib.hid (nHas n t true w (by simp [h2]))
        have h6 : rOk n ⟨f, t, s, g⟩ = (decide (-100000 ≤ s ∧ s ≤ 100000) && decide (1 ≤ g ∧ g ≤ 9)) := by simp [rOk, h1, h2, h3]
        by_cases h4 : -100000 ≤ s ∧ s ≤ 100000
        · have c3 := fun w => Lib.hid (nWithin s 100000 true w (by decide) (by decide) (by simp [h4]))
          have hc : b = (decide (1 ≤ g) && decide (g ≤ 9)) := by rw [← hb, h6]; simp [h4]
          clear hb h1 h2 h3 h4 h6
          go_enter Try.func56, Try.ntmps56
          by_cases h5 : 1 ≤ g
          · go_wp2_with (first | (go_at_call 66; (with_reducible refine ((c1 _).out).mono ?_); rintro e w' ⟨rfl, rfl⟩) | (go_at_call 66; (with_reducible refine ((c2 _).out).mono ?_); rintro e w' ⟨rfl, rfl⟩) | (go_at_call 41; (with_reducible refine ((c3 _).out).mono ?_); rintro e w' ⟨rfl, rfl⟩))
            go_ret
            exact ⟨by simp [hc, h5], (by repeat (first | assumption | exact Below.refl _ _ | (refine below_chain ?_ (by assumption) (by first | omega | (simp <;> omega) | simp)) | (refine Below.alloc ?_ (by first | omega | (simp <;> omega) | simp) _) | (apply below_drewN) | (apply below_drew) | (refine Below.setCell ?_ (by first | omega | (simp <;> omega) | simp) _)))⟩
          · go_wp2_with (first | (go_at_call 66; (with_reducible refine ((c1 _).out).mono ?_); rintro e w' ⟨rfl, rfl⟩) | (go_at_call 66; (with_reducible refine ((c2 _).out).mono ?_); rintro e w' ⟨rfl, rfl⟩) | (go_at_call 41; (with_reducible refine ((c3 _).out).mono ?_); rintro e w' ⟨rfl, rfl⟩))
            go_ret
            exact ⟨by simp; omega, (by repeat (first | assumption | exact Below.refl _ _ | (refine below_chain ?_ (by assumption) (by first | omega | (simp <;> omega) | simp)) | (refine Below.alloc ?_ (by first | omega | (simp <;> omega) | simp) _) | (apply below_drewN) | (apply below_drew) | (refine Below.setCell ?_ (by first | omega | (simp <;> omega) | simp) _)))⟩
        · have c3 := fun w => Lib.hid (nWithin s 100000 false w (by decide) (by decide) (by simp [h4]))
          have hc : b = false := by rw [← hb, h6]; simp [h4]
          subst hc
          clear hb h1 h2 h3 h4 h6
          go_enter Try.func56, Try.ntmps56
          go_wp2_with (first | (go_at_call 66; (with_reducible refine ((c1 _).out).mono ?_); rintro e w' ⟨rfl, rfl⟩) | (go_at_call 66; (with_reducible refine ((c2 _).out).mono ?_); rintro e w' ⟨rfl, rfl⟩) | (go_at_call 41; (with_reducible refine ((c3 _).out).mono ?_); rintro e w' ⟨rfl, rfl⟩))
          go_ret
          exact ⟨rfl, (by repeat (first | assumption | exact Below.refl _ _ | (refine below_chain ?_ (by assumption) (by first | omega | (simp <;> omega) | simp)) | (refine Below.alloc ?_ (by first | omega | (simp <;> omega) | simp) _) | (apply below_drewN) | (apply below_drew) | (refine Below.setCell ?_ (by first | omega | (simp <;> omega) | simp) _)))⟩
    · have hc : b = false := by rw [← hb]; simp only [rOk, h2, decide_false, Bool.and_false, Bool.false_and]
      have c1 := fun w => Lib.hid (nHas n f true w (by simp [h1]))
      have c2 := fun w => Lib.hid (nHas n t false w (by simp only [h2, decide_false]))
      subst hc
      clear hb h1 h2
      go_enter Try.func56, Try.ntmps56
      go_wp2_with (first | (go_at_call 66; (with_reducible refine ((c1 _).out).mono ?_); rintro e w' ⟨rfl, rfl⟩) | (go_at_call 66; (with_reducible refine ((c2 _).out).mono ?_); rintro e w' ⟨rfl, rfl⟩))
      go_ret
      exact ⟨rfl, (by repeat (first | assumption | exact Below.refl _ _ | (refine below_chain ?_ (by assumption) (by first | omega | (simp <;> omega) | simp)) | (refine Below.alloc ?_ (by first | omega | (simp <;> omega) | simp) _) | (apply below_drewN) | (apply below_drew) | (refine Below.setCell ?_ (by first | omega | (simp <;> omega) | simp) _)))⟩
  · have hc : b = false := by rw [← hb]; simp only [rOk, h1, decide_false, Bool.false_and]
    have c1 := fun w => Lib.hid (nHas n f false w (by simp only [h1, decide_false]))
    subst hc
    clear hb h1
    go_enter Try.func56, Try.ntmps56
    go_wp2_with (first | (go_at_call 66; (with_reducible refine ((c1 _).out).mono ?_); rintro e w' ⟨rfl, rfl⟩))
    go_ret
    exact ⟨rfl, (by repeat (first | assumption | exact Below.refl _ _ | (refine below_chain ?_ (by assumption) (by first | omega | (simp <;> omega) | simp)) | (refine Below.alloc ?_ (by first | omega | (simp <;> omega) | simp) _) | (apply below_drewN) | (apply below_drew) | (refine Below.setCell ?_ (by first | omega | (simp <;> omega) | simp) _)))⟩

theorem runs_cell {w : World} {B o : Nat} {r : Rn} (h : RunAt w B o r) : w.cell? ⟨B, o, none⟩ = some (.int .i64 r.f) ∧ w.cell? ⟨B, o + 1, none⟩ = some (.int .i64 r.t) ∧ w.cell? ⟨B, o + 2, none⟩ = some (.int .i64 r.s) ∧ w.cell? ⟨B, o + 3, none⟩ = some (.int .i64 r.g) := h

set_option maxHeartbeats 1000000 in
theorem iValid (n : Int) (p : Option Addr) (c : Nat) (rs : List Rn) (b : Bool) (w : World) (h : Runs w p rs) (hc : rs.length ≤ 4000000000000000000) (hb : nOk n rs = b) :
    Calls Try.prog 28 #[.int .i64 n, .slice p rs.length c] w fun e w' => e = .returned (.bool b) ∧ Below w.heap.size w w' := by
  by_cases h1 : 2 ≤ n
  · by_cases h2 : n ≤ 6
    · by_cases h3 : rs.length ≤ 12
      · have H := Lib.hid h
        have HB := Lib.hid hb
        clear h hb hc
        go_enter Try.func28, Try.ntmps28
        go_wp2_with fail
        go_loopw [20] (fun i wr => ∃ k : Nat, k ≤ rs.length ∧ i = .int .i64 k ∧ okTo n rs k ∧ Below w.heap.size w wr) (fun i _ => rs.length - (intOf i).toNat)
        case atStart => exact ⟨0, Nat.zero_le _, rfl, okTo_zero _ _, Below.refl _ _⟩
        case round =>
          obtain ⟨k, hk, rfl, hok, hbr⟩ := hrel
          have hbs := hbr.size
          have HO := Lib.hid hok
          clear hok
          by_cases hlt : k < rs.length
          · obtain ⟨B, o, r, rfl, hr, hB, hat⟩ := (H.out.below hbr).at hlt
            obtain ⟨e0, e1, e2, e3⟩ := hat
            have HR := Lib.hid hr
            clear hr
            obtain ⟨v, hv⟩ : ∃ v, rOk n r = v := ⟨_, rfl⟩
            have HV := Lib.hid hv
            have cr := fun w => Lib.hid (nRunValid n r.f r.t r.s r.g v w hv)
            clear hv
            cases v
            · go_wp2_with ((go_at_call 56; (with_reducible refine ((cr _).out).mono ?_); rintro e wn ⟨rfl, hbn⟩; obtain ⟨hcn, hfn⟩ := bcell hbn; (try simp only [World.size_drew, World.cell?_drew, World.frozen?_drew, World.heap_drewN, World.cell?_drewN, World.frozen?_drewN] at hcn hfn); have hsz := hbn.size; (try simp at hsz); (try have hsl := Nat.lt_of_succ_le hsz); (try have hz0 : wr.heap.size < wn.heap.size := (by have := hbn.size; (try simp at this); omega))))
              go_ret
              exact ⟨ret_bool ((nOk_no HR.out HV.out).symm.trans HB.out), (by repeat (first | assumption | exact Below.refl _ _ | (refine below_chain ?_ (by assumption) (by first | omega | (simp <;> omega) | simp)) | (refine Below.alloc ?_ (by first | omega | (simp <;> omega) | simp) _) | (apply below_drewN) | (apply below_drew) | (refine Below.setCell ?_ (by first | omega | (simp <;> omega) | simp) _)))⟩
            · go_wp2_with ((go_at_call 56; (with_reducible refine ((cr _).out).mono ?_); rintro e wn ⟨rfl, hbn⟩; obtain ⟨hcn, hfn⟩ := bcell hbn; (try simp only [World.size_drew, World.cell?_drew, World.frozen?_drew, World.heap_drewN, World.cell?_drewN, World.frozen?_drewN] at hcn hfn); have hsz := hbn.size; (try simp at hsz); (try have hsl := Nat.lt_of_succ_le hsz); (try have hz0 : wr.heap.size < wn.heap.size := (by have := hbn.size; (try simp at this); omega))))
              go_roundw
              case rel => exact ⟨k + 1, by omega, by go_num, okTo_succ HO.out HR.out HV.out, (by repeat (first | assumption | exact Below.refl _ _ | (refine below_chain ?_ (by assumption) (by first | omega | (simp <;> omega) | simp)) | (refine Below.alloc ?_ (by first | omega | (simp <;> omega) | simp) _) | (apply below_drewN) | (apply below_drew) | (refine Below.setCell ?_ (by first | omega | (simp <;> omega) | simp) _)))⟩
              case measure => simp [intOf]; omega
          · have e : k = rs.length := by omega
            subst e
            go_wp2_with fail
            go_ret
            exact ⟨ret_bool ((nOk_of_to h1 h2 h3 HO.out).symm.trans HB.out), (by repeat (first | assumption | exact Below.refl _ _ | (refine below_chain ?_ (by assumption) (by first | omega | (simp <;> omega) | simp)) | (refine Below.alloc ?_ (by first | omega | (simp <;> omega) | simp) _) | (apply below_drewN) | (apply below_drew) | (refine Below.setCell ?_ (by first | omega | (simp <;> omega) | simp) _)))⟩
      · have e : b = false := by rw [← hb]; exact nOk_size (by omega)
        subst e
        clear h hb
        go_enter Try.func28, Try.ntmps28
        go_wp2_with fail
        go_ret
        exact ⟨rfl, (by repeat (first | assumption | exact Below.refl _ _ | (refine below_chain ?_ (by assumption) (by first | omega | (simp <;> omega) | simp)) | (refine Below.alloc ?_ (by first | omega | (simp <;> omega) | simp) _) | (apply below_drewN) | (apply below_drew) | (refine Below.setCell ?_ (by first | omega | (simp <;> omega) | simp) _)))⟩
    · have e : b = false := by rw [← hb]; exact nOk_size (by omega)
      subst e
      clear h hb
      go_enter Try.func28, Try.ntmps28
      go_wp2_with fail
      go_ret
      exact ⟨rfl, (by repeat (first | assumption | exact Below.refl _ _ | (refine below_chain ?_ (by assumption) (by first | omega | (simp <;> omega) | simp)) | (refine Below.alloc ?_ (by first | omega | (simp <;> omega) | simp) _) | (apply below_drewN) | (apply below_drew) | (refine Below.setCell ?_ (by first | omega | (simp <;> omega) | simp) _)))⟩
  · have e : b = false := by rw [← hb]; exact nOk_size (by omega)
    subst e
    clear h hb
    go_enter Try.func28, Try.ntmps28
    go_wp2_with fail
    go_ret
    exact ⟨rfl, (by repeat (first | assumption | exact Below.refl _ _ | (refine below_chain ?_ (by assumption) (by first | omega | (simp <;> omega) | simp)) | (refine Below.alloc ?_ (by first | omega | (simp <;> omega) | simp) _) | (apply below_drewN) | (apply below_drew) | (refine Below.setCell ?_ (by first | omega | (simp <;> omega) | simp) _)))⟩
end Go.Proofs.Ytjfbkafekkbcdaa
