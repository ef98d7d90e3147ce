/-
  The program's AdjustTry.
-/
import Derived.Test.YtoaomjchaihkaaaDoorEgz
namespace Go.Proofs.YtoaomjchaihkaaaDoor
open Go.RowKit
set_option linter.unusedVariables false

set_option maxHeartbeats 8000000 in
set_option maxRecDepth 100000 in
theorem iTry_yes (N : Nat) (p q : Option Addr) (c d m : Nat) (rs : List Rn) (hs : List Int) (w : World) (h : Runs w p rs) (hh : Ints w q hs) (hm : rs.length = m) (hN : hs.length = N) (hn : nOk (N : Int) rs = true) (ht : htOk (N : Int) hs = true) :
    Calls Tryd.prog 20 #[.int .i64 N, .slice p m c, .slice q N d] w fun e w' => e = .returned (.int .i64 (tryV hs rs)) ∧ Below w.heap.size w w' := by
  have hl12 : m ≤ 12 := by rw [← hm]; exact (nOk_true hn).2.2.1
  have hN6 : (N : Int) ≤ 6 := (nOk_true hn).2.1
  have hN6' : N ≤ 6 := by omega
  have c1 := fun w h => Lib.hid (by have := iValid N p c rs true w h (by omega) hn; rw [hm] at this; exact this)
  have c2 := fun w h => Lib.hid (by have := iHeights N q d hs true w h (by omega) ht; rw [hN] at this; exact this)
  have H := Lib.hid (And.intro h (And.intro hh (And.intro hm (And.intro hN (And.intro hn ht)))))
  clear h hh hm hN hn ht
  go_enter Tryd.func20, Tryd.ntmps20
  go_wp2_with (first | (go_at_call 55; (with_reducible refine ((c1 _ ?_).out).mono ?_); (focus ((exact H.out.1); done)); rintro e wa ⟨rfl, hb_wa⟩; have hs_wa := hb_wa.size; (try simp at hs_wa)) | (go_at_call 56; (with_reducible refine ((c2 _ ?_).out).mono ?_); (focus ((exact H.out.2.1.below (by repeat (first | assumption | exact Below.refl _ _ | (refine below_chain ?_ (by assumption) (by first | omega | (simp <;> omega) | simp)) | (refine Below.alloc ?_ (by first | omega | (simp <;> omega) | simp) _) | (apply below_drewN) | (apply below_drew) | (refine Below.setCell ?_ (by first | omega | (simp <;> omega) | simp) _)))); done)); rintro e w' ⟨rfl, rfl⟩))
  go_loopw [7, 23] (fun s i wq => ∃ k : Nat, k ≤ m ∧ i = .int .i64 k ∧ s = .int .i64 (tryV hs (rs.take k)) ∧ Below w.heap.size w wq) (fun _ i _ => m - (intOf i).toNat)
  case atStart => exact ⟨0, Nat.zero_le _, rfl, rfl, hb_wa⟩
  case round =>
    clear hb_wa hs_wa
    rename World => wq
    obtain ⟨k, hk, rfl, rfl, hbq⟩ := hrel
    have hsq := hbq.size
    have HB := Lib.hid hbq
    by_cases hlt : k < m
    · have hlt' : (k : Int) < (m : Int) := by omega
      obtain ⟨B, o, r, rfl, hr, hB, e1, e2, e3, e4⟩ := (H.out.1.below hbq).at (i := k) (by rw [H.out.2.2.1]; exact hlt)
      have hro := rOk_true ((nOk_true H.out.2.2.2.2.1).2.2.2 k r hr)
      obtain ⟨F, hF⟩ : ∃ F : Nat, r.f = F := ⟨r.f.toNat, by omega⟩
      obtain ⟨T, hT⟩ : ∃ T : Nat, r.t = T := ⟨r.t.toNat, by omega⟩
      have hFN : F < N := by omega
      have hTN : T < N := by omega
      have hFN' : (F : Int) < (N : Int) := by omega
      have hTN' : (T : Int) < (N : Int) := by omega
      obtain ⟨A, oA, z, rfl, hz, hA, x1⟩ := (H.out.2.1.below hbq).at (i := T) (by rw [H.out.2.2.2.1]; exact hTN)
      obtain ⟨A', oA', z', heq, hz', hA', x2⟩ := (H.out.2.1.below hbq).at (i := F) (by rw [H.out.2.2.2.1]; exact hFN)
      cases heq
      have g1 : htAt hs (T : Int) = z := by unfold htAt; rw [Int.toNat_natCast, hz]; rfl
      have g2 : htAt hs (F : Int) = z' := by unfold htAt; rw [Int.toNat_natCast, hz']; rfl
      have b1 := htOk_low H.out.2.2.2.2.2 (T : Int)
      have b2 := htOk_low H.out.2.2.2.2.2 (F : Int)
      rw [g1] at b1
      rw [g2] at b2
      have hst : tryV hs (rs.take (k + 1)) = tryV hs (rs.take k) + r.g * (z - z' - r.s) * (z - z' - r.s) := by
        unfold tryV; rw [lsm_take hr]; unfold tryW; rw [hF, hT, g1, g2]
      have hsb := lsm_abs (rs := rs.take k) (F := tryW hs) (c := 40000000000000) (fun r hr => tryW_low H.out.2.2.2.2.2 H.out.2.2.2.2.1 (List.mem_of_mem_take hr))
      have hsl : (rs.take k).length = k := by rw [List.length_take, H.out.2.2.1]; omega
      rw [hsl] at hsb
      have hV : tryV hs (rs.take k) = lsm (rs.take k) (tryW hs) := rfl
      rw [← hV] at hsb
      obtain ⟨S, hS⟩ : ∃ S, tryV hs (rs.take k) = S := ⟨_, rfl⟩
      rw [hS] at hsb hst ⊢
      have hsb2 : -480000000000000 ≤ S ∧ S ≤ 480000000000000 := by omega
      obtain ⟨s1, s2⟩ := hsb2
      obtain ⟨b3, b4⟩ := b1
      obtain ⟨b5, b6⟩ := b2
      rw [hF] at e1
      rw [hT] at e2
      have HX := Lib.hid hst
      obtain ⟨dd, hdd⟩ : ∃ d, z - z' - r.s = d := ⟨_, rfl⟩
      have w1 : IntKind.i64.wrap (z - z') = z - z' := by rw [IntKind.wrap_i64]; omega
      have w2 : IntKind.i64.wrap (z - z' - r.s) = dd := by rw [IntKind.wrap_i64]; omega
      have c5 := abs_mul (a := r.g) (b := dd) (x := 9) (y := 2100000) (by omega) (by omega)
      obtain ⟨P, hP⟩ : ∃ P, r.g * dd = P := ⟨_, rfl⟩
      rw [hP] at c5
      have c6 := abs_mul (a := P) (b := dd) (x := 9 * 2100000) (y := 2100000) c5 (by omega)
      obtain ⟨Q, hQ⟩ : ∃ Q, P * dd = Q := ⟨_, rfl⟩
      rw [hQ] at c6
      have w3 : IntKind.i64.wrap (r.g * dd) = P := by rw [hP, IntKind.wrap_i64]; omega
      have w4 : IntKind.i64.wrap (P * dd) = Q := by rw [hQ, IntKind.wrap_i64]; omega
      have w5 : IntKind.i64.wrap (S + Q) = S + Q := by rw [IntKind.wrap_i64]; omega
      have HX := Lib.hid (show tryV hs (rs.take (k + 1)) = S + Q from by rw [HX.out, hdd, hP, hQ])
      clear hbq hr hz hz' g1 g2 hst hsb hsl hV hS hF hT c2
      go_upto_region 7 with fail
      go_region
      go_wp2_with fail
      exact ⟨⟨k + 1, by omega, by go_num, by rw [HX.out], below_drew (HB.out.alloc hsq _)⟩, by simp [intOf]; omega⟩
    · have e : k = m := by omega
      subst e
      rw [List.take_of_length_le (by rw [H.out.2.2.1]; exact Nat.le_refl _)]
      clear hbq
      go_wp2_with fail
      go_ret
      exact ⟨rfl, HB.out⟩
set_option maxHeartbeats 4000000 in
theorem iTry_no (n : Int) (p q : Option Addr) (c d m N : Nat) (rs : List Rn) (hs : List Int) (w : World) (h : Runs w p rs) (hh : Ints w q hs) (hm : rs.length = m) (hN : hs.length = N) (hl : m ≤ 4000000000000000000) (hl2 : N ≤ 4000000000000000000) (hno : ¬ (nOk n rs = true ∧ htOk n hs = true)) :
    Calls Tryd.prog 20 #[.int .i64 n, .slice p m c, .slice q N d] w fun e w' => e = .returned (.int .i64 (-1)) ∧ Below w.heap.size w w' := by
  have H := Lib.hid (And.intro h hh)
  cases hn : nOk n rs
  · have c1 := fun w h => Lib.hid (by have := iValid n p c rs false w h (by omega) hn; rw [hm] at this; exact this)
    clear h hh hm hN hn hno
    go_enter Tryd.func20, Tryd.ntmps20
    go_wp2_with (first | (go_at_call 55; (with_reducible refine ((c1 _ ?_).out).mono ?_); (focus ((exact H.out.1); done)); rintro e wa ⟨rfl, hb_wa⟩; have hs_wa := hb_wa.size; (try simp at hs_wa)))
    go_ret
    exact ⟨rfl, hb_wa⟩
  · have hf : htOk n hs = false := by
      cases e : htOk n hs
      · rfl
      · exact absurd ⟨hn, e⟩ hno
    have c1 := fun w h => Lib.hid (by have := iValid n p c rs true w h (by omega) hn; rw [hm] at this; exact this)
    have c2 := fun w h => Lib.hid (by have := iHeights n q d hs false w h (by omega) hf; rw [hN] at this; exact this)
    clear h hh hm hN hn hno hf
    go_enter Tryd.func20, Tryd.ntmps20
    go_wp2_with (first | (go_at_call 55; (with_reducible refine ((c1 _ ?_).out).mono ?_); (focus ((exact H.out.1); done)); rintro e wa ⟨rfl, hb_wa⟩; have hs_wa := hb_wa.size; (try simp at hs_wa)) | (go_at_call 56; (with_reducible refine ((c2 _ ?_).out).mono ?_); (focus ((exact H.out.2.below (by repeat (first | assumption | exact Below.refl _ _ | (refine below_chain ?_ (by assumption) (by first | omega | (simp <;> omega) | simp)) | (refine Below.alloc ?_ (by first | omega | (simp <;> omega) | simp) _) | (apply below_drewN) | (apply below_drew) | (refine Below.setCell ?_ (by first | omega | (simp <;> omega) | simp) _)))); done)); rintro e w' ⟨rfl, rfl⟩))
    go_ret
    exact ⟨rfl, hb_wa⟩
end Go.Proofs.YtoaomjchaihkaaaDoor
