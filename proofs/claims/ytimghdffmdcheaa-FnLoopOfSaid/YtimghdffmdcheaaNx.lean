/-
  What NetLoops answers, in both programs.
-/
import Derived.Test.YtimghdffmdcheaaNw
namespace Go.Proofs.Ytimghdffmdcheaa
open Go.RowKit
set_option linter.unusedVariables false

theorem nLoops_yes {N : Nat} {rs : List Rn} (h : nOk N rs = true) : nLoops N rs = (rs.length : Int) - N + roots (labs N rs) N := by
  unfold nLoops; rw [if_pos h]; simp
theorem nLoops_no {n : Int} {rs : List Rn} (h : nOk n rs = false) : nLoops n rs = -1 := by unfold nLoops; simp [h]
theorem roots_hit {L : List Int} {k : Nat} {z : Int} (hz : L[k]? = some z) : roots L (k + 1) = roots L k + if (k : Int) = z then 1 else 0 := by
  simp only [roots, htAt_nat hz]
  by_cases e : (k : Int) = z
  · simp [e]
  · have : ¬ z = (k : Int) := fun e' => e e'.symm
    simp [e, this]

set_option maxHeartbeats 1000000 in
theorem iLoops (n : Int) (p : Option Addr) (c : Nat) (rs : List Rn) (v : Int) (w : World) (h : Runs w p rs) (hl : rs.length ≤ 4000000000000000000) (hb : nLoops n rs = v) :
    Calls Try.prog 33 #[.int .i64 n, .slice p rs.length c] w fun e w' => e = .returned (.int .i64 v) ∧ Below w.heap.size w w' := by
  have H := Lib.hid h
  have HB := Lib.hid hb
  clear hb
  by_cases hn : nOk n rs = true
  · obtain ⟨a1, a2, hl12, -⟩ := nOk_true hn
    obtain ⟨N, rfl⟩ : ∃ N : Nat, n = (N : Int) := ⟨n.toNat, by omega⟩
    have c0 := fun w h => Lib.hid (iValid N p c rs true w h hl hn)
    have c1 := fun w h => Lib.hid (iLinked_yes N p c rs w h hn)
    have hll := labs_len N rs
    have HV : Hid (v = (rs.length : Int) - N + roots (labs N rs) N) := Lib.hid (by rw [← HB.out]; exact nLoops_yes hn)
    generalize labs N rs = zs at c1 hll HV
    have h6 : zs.length ≤ 6 := by omega
    have HL := Lib.hid hll
    clear h hn hll HB hl
    go_enter Try.func33, Try.ntmps33
    go_wp2_with (first | (go_at_call 39; (with_reducible refine ((c0 _ ?_).out).mono ?_); (focus ((exact H.out); done)); rintro e wa ⟨rfl, hb_wa⟩; have hs_wa := hb_wa.size; (try simp at hs_wa)) | (go_at_call 74; (with_reducible refine ((c1 _ ?_).out).mono ?_); (focus ((exact H.out.below (by repeat (first | assumption | exact Below.refl _ _ | (refine below_chain ?_ (by assumption) (by first | omega | (simp <;> omega) | simp)) | (refine Below.alloc ?_ (by first | omega | (simp <;> omega) | simp) _) | (apply below_drewN) | (apply below_drew) | (refine Below.setCell ?_ (by first | omega | (simp <;> omega) | simp) _)))); done)); rintro e wl ⟨u, rfl, g, cap, rfl, hg, hown, hb_wl⟩; have hs_wl := hb_wl.size; (try simp at hs_wl)))
    clear c0 c1
    have HO := Lib.hid hown
    have hlo := hown.lt
    have hB : Below w.heap.size w wl := (by repeat (first | assumption | exact Below.refl _ _ | (refine below_chain ?_ (by assumption) (by first | omega | (simp <;> omega) | simp)) | (refine Below.alloc ?_ (by first | omega | (simp <;> omega) | simp) _) | (apply below_drewN) | (apply below_drew) | (refine Below.setCell ?_ (by first | omega | (simp <;> omega) | simp) _)))
    clear hown
    go_loopw [5, 16] (fun t i wr => ∃ k : Nat, k ≤ zs.length ∧ i = .int .i64 k ∧ t = .int .i64 (roots zs k) ∧ wl = wr) (fun _ i _ => zs.length - (intOf i).toNat)
    case atStart => exact ⟨0, Nat.zero_le _, rfl, rfl, rfl⟩
    case round =>
      obtain ⟨k, hk, rfl, rfl, rfl⟩ := hrel
      have hrk := roots_le zs k
      by_cases hlt : k < zs.length
      · obtain ⟨z, hz⟩ : ∃ z, zs[k]? = some z := ⟨_, List.getElem?_eq_getElem hlt⟩
        have e0 := HO.out.cells hz
        have HR := Lib.hid (roots_hit hz)
        clear hz
        by_cases hkz : (k : Int) = z
        · have hkz' : ((k : Int) == z) = true := by simpa using hkz
          have hr1 : roots zs (k + 1) = roots zs k + 1 := by rw [HR.out, if_pos hkz]
          have HR1 := Lib.hid hr1
          clear hkz hr1
          go_wp2_with fail
          go_roundw
          case rel => exact ⟨k + 1, by omega, by go_num, by rw [HR1.out]; go_num, by first | trivial | rfl⟩
          case measure => simp [intOf]; omega
        · have hkz' : ((k : Int) == z) = false := by simpa using hkz
          have hr1 : roots zs (k + 1) = roots zs k := by rw [HR.out, if_neg hkz]; rfl
          have HR1 := Lib.hid hr1
          clear hkz hr1
          go_wp2_with fail
          go_roundw
          case rel => exact ⟨k + 1, by omega, by go_num, by rw [HR1.out], by first | trivial | rfl⟩
          case measure => simp [intOf]; omega
      · have e : k = zs.length := by omega
        have hv : (rs.length : Int) - N + roots zs k = v := by rw [HV.out, e, HL.out]
        have HVV := Lib.hid hv
        clear e hv
        go_wp2_with fail
        go_ret
        exact ⟨ret_int HVV.out, hB⟩
  · have hn' : nOk n rs = false := by simpa using hn
    have e : v = -1 := by rw [← HB.out]; exact nLoops_no hn'
    have c1 := fun w h => Lib.hid (iValid n p c rs false w h hl hn')
    subst e
    clear h hn hn' HB
    go_enter Try.func33, Try.ntmps33
    go_wp2_with ((go_at_call 39; (with_reducible refine ((c1 _ ?_).out).mono ?_); (focus ((exact H.out); done)); rintro e wl ⟨rfl, hb_wl⟩; have hs_wl := hb_wl.size; (try simp at hs_wl)))
    go_ret
    exact ⟨rfl, (by repeat (first | assumption | exact Below.refl _ _ | (refine below_chain ?_ (by assumption) (by first | omega | (simp <;> omega) | simp)) | (refine Below.alloc ?_ (by first | omega | (simp <;> omega) | simp) _) | (apply below_drewN) | (apply below_drew) | (refine Below.setCell ?_ (by first | omega | (simp <;> omega) | simp) _)))⟩
end Go.Proofs.Ytimghdffmdcheaa
