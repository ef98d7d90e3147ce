/-
  For every two lists of numbers and every number the law FnExactShareOk returns true: impl.ShareOk answers whether a list are shares as the reference model does, and leaves its arguments as they were. No condition: every int and every list are taken.
-/
import Derived.Test.YtjfbkafekkbcdaaNm
import Derived.Test.YtjfbkafekkbcdaaSi
import Derived.Test.YtjfbkafekkbcdaaShOpen
namespace Go.Proofs.Ytjfbkafekkbcdaa.fnExactShareOk
open Go.ChangeShapes Go.WideShapes Go.ChangeAt Go.RowKit
set_option linter.unusedVariables false

set_option maxHeartbeats 4000000 in
theorem walk (w : World) (p : Option Addr) (c : Nat) (ls : List Int) (h : Ints w p ls) (hl : ls.length ≤ 9223372036854775807) (a : Int) (wa : (Lit.int .i64 a).wf = true) (q : Option Addr) (d : Nat) (xs : List Int) (hh : Ints w q xs) (hlh : xs.length ≤ 9223372036854775807) :
    Calls Try.prog 11 #[.slice p ls.length c, .int .i64 a, .slice q xs.length d] w fun e w' => e = .returned (.bool true) ∧ Below w.heap.size w w' := by
  have H := Lib.hid h
  have HI := Lib.hid hh
  clear h wa hh
  obtain ⟨b, hb⟩ : ∃ b, okS ls a xs = b := ⟨_, rfl⟩
  have hb0 := Lib.hid hb
  clear hb
  by_cases hm1 : ls.length ≤ 1048576
  · have hm2 : ¬ (1048576 : Int) < (ls.length : Int) := by omega
    have hm3 : ls.length ≤ 4000000000000000000 := by omega
    by_cases hl1 : xs.length ≤ 1048576
    · have hl2 : ¬ (1048576 : Int) < (xs.length : Int) := by omega
      have hl3 : xs.length ≤ 4000000000000000000 := by omega
      go_enter Try.func11, Try.ntmps11
      go_wp2_with ((go_at_call 33; (with_reducible refine (toInts p c ls _ ?_ hm1).mono ?_); (focus ((exact H.out.below (by repeat (first | assumption | exact Below.refl _ _ | (refine below_chain ?_ (by assumption) (by first | omega | (simp <;> omega) | simp)) | (refine Below.alloc ?_ (by first | omega | (simp <;> omega) | simp) _) | (apply below_drewN) | (apply below_drew) | (refine Below.setCell ?_ (by first | omega | (simp <;> omega) | simp) _)))); done)); rintro e wa ⟨rfl, oa, hb_wa⟩; have hs_wa := hb_wa.size; (try simp at hs_wa)))
      have OA := Lib.hid oa
      clear oa
      go_wp2_with ((go_at_call 33; (with_reducible refine (toInts q d xs _ ?_ hl1).mono ?_); (focus ((exact HI.out.below (by repeat (first | assumption | exact Below.refl _ _ | (refine below_chain ?_ (by assumption) (by first | omega | (simp <;> omega) | simp)) | (refine Below.alloc ?_ (by first | omega | (simp <;> omega) | simp) _) | (apply below_drewN) | (apply below_drew) | (refine Below.setCell ?_ (by first | omega | (simp <;> omega) | simp) _)))); done)); rintro e wx ⟨rfl, ox, hb_wx⟩; have hs_wx := hb_wx.size; (try simp at hs_wx)))
      have OX := Lib.hid ox
      clear ox
      go_wp2_with ((go_at_call 22; (with_reducible refine (sShareOk _ _ _ _ _ _ ls xs a b _ ?_ ?_ rfl rfl hm3 hl3 hb0.out).mono ?_); (focus ((exact (OA.out.below (by repeat (first | assumption | exact Below.refl _ _ | (refine below_chain ?_ (by assumption) (by first | omega | (simp <;> omega) | simp)) | (refine Below.alloc ?_ (by first | omega | (simp <;> omega) | simp) _) | (apply below_drewN) | (apply below_drew) | (refine Below.setCell ?_ (by first | omega | (simp <;> omega) | simp) _)))).ints); done)); (focus ((exact OX.out.ints); done)); rintro e ws ⟨rfl, hb_ws⟩; have hs_ws := hb_ws.size; (try simp at hs_ws)))
      go_wp2_with ((go_at_call 33; (with_reducible refine (toInts p c ls _ ?_ hm1).mono ?_); (focus ((exact H.out.below (by repeat (first | assumption | exact Below.refl _ _ | (refine below_chain ?_ (by assumption) (by first | omega | (simp <;> omega) | simp)) | (refine Below.alloc ?_ (by first | omega | (simp <;> omega) | simp) _) | (apply below_drewN) | (apply below_drew) | (refine Below.setCell ?_ (by first | omega | (simp <;> omega) | simp) _)))); done)); rintro e wb ⟨rfl, ob, hb_wb⟩; have hs_wb := hb_wb.size; (try simp at hs_wb)))
      have OB := Lib.hid ob
      clear ob
      go_wp2_with ((go_at_call 33; (with_reducible refine (toInts q d xs _ ?_ hl1).mono ?_); (focus ((exact HI.out.below (by repeat (first | assumption | exact Below.refl _ _ | (refine below_chain ?_ (by assumption) (by first | omega | (simp <;> omega) | simp)) | (refine Below.alloc ?_ (by first | omega | (simp <;> omega) | simp) _) | (apply below_drewN) | (apply below_drew) | (refine Below.setCell ?_ (by first | omega | (simp <;> omega) | simp) _)))); done)); rintro e wy ⟨rfl, oy, hb_wy⟩; have hs_wy := hb_wy.size; (try simp at hs_wy)))
      have OY := Lib.hid oy
      clear oy
      go_wp2_with ((go_at_call 19; (with_reducible refine (iShareOk _ _ _ _ _ _ ls xs a b _ ?_ ?_ rfl rfl hm3 hl3 hb0.out).mono ?_); (focus ((exact (OB.out.below (by repeat (first | assumption | exact Below.refl _ _ | (refine below_chain ?_ (by assumption) (by first | omega | (simp <;> omega) | simp)) | (refine Below.alloc ?_ (by first | omega | (simp <;> omega) | simp) _) | (apply below_drewN) | (apply below_drew) | (refine Below.setCell ?_ (by first | omega | (simp <;> omega) | simp) _)))).ints); done)); (focus ((exact OY.out.ints); done)); rintro e wi ⟨rfl, hb_wi⟩; have hs_wi := hb_wi.size; (try simp at hs_wi)))
      go_wp2_with ((go_at_call 33; (with_reducible refine (toInts p c ls _ ?_ hm1).mono ?_); (focus ((exact H.out.below (by repeat (first | assumption | exact Below.refl _ _ | (refine below_chain ?_ (by assumption) (by first | omega | (simp <;> omega) | simp)) | (refine Below.alloc ?_ (by first | omega | (simp <;> omega) | simp) _) | (apply below_drewN) | (apply below_drew) | (refine Below.setCell ?_ (by first | omega | (simp <;> omega) | simp) _)))); done)); rintro e wc ⟨rfl, oc, hb_wc⟩; have hs_wc := hb_wc.size; (try simp at hs_wc)))
      have OC := Lib.hid oc
      clear oc
      go_wp2_with ((go_at_call 34; (with_reducible refine (eqInts _ _ _ _ ls _ ?_ ?_ hm3).mono ?_); (focus ((exact (OB.out.below (by repeat (first | assumption | exact Below.refl _ _ | (refine below_chain ?_ (by assumption) (by first | omega | (simp <;> omega) | simp)) | (refine Below.alloc ?_ (by first | omega | (simp <;> omega) | simp) _) | (apply below_drewN) | (apply below_drew) | (refine Below.setCell ?_ (by first | omega | (simp <;> omega) | simp) _)))).ints); done)); (focus ((exact OC.out.ints); done)); rintro e we ⟨rfl, hb_we⟩; have hs_we := hb_we.size; (try simp at hs_we)))
      go_wp2_with ((go_at_call 33; (with_reducible refine (toInts q d xs _ ?_ hl1).mono ?_); (focus ((exact HI.out.below (by repeat (first | assumption | exact Below.refl _ _ | (refine below_chain ?_ (by assumption) (by first | omega | (simp <;> omega) | simp)) | (refine Below.alloc ?_ (by first | omega | (simp <;> omega) | simp) _) | (apply below_drewN) | (apply below_drew) | (refine Below.setCell ?_ (by first | omega | (simp <;> omega) | simp) _)))); done)); rintro e wz ⟨rfl, oz, hb_wz⟩; have hs_wz := hb_wz.size; (try simp at hs_wz)))
      have OZ := Lib.hid oz
      clear oz
      go_wp2_with ((go_at_call 34; (with_reducible refine (eqInts _ _ _ _ xs _ ?_ ?_ hl3).mono ?_); (focus ((exact (OY.out.below (by repeat (first | assumption | exact Below.refl _ _ | (refine below_chain ?_ (by assumption) (by first | omega | (simp <;> omega) | simp)) | (refine Below.alloc ?_ (by first | omega | (simp <;> omega) | simp) _) | (apply below_drewN) | (apply below_drew) | (refine Below.setCell ?_ (by first | omega | (simp <;> omega) | simp) _)))).ints); done)); (focus ((exact OZ.out.ints); done)); rintro e wf ⟨rfl, hb_wf⟩; have hs_wf := hb_wf.size; (try simp at hs_wf)))
      go_ret
      exact ⟨rfl, (by repeat (first | assumption | exact Below.refl _ _ | (refine below_chain ?_ (by assumption) (by first | omega | (simp <;> omega) | simp)) | (refine Below.alloc ?_ (by first | omega | (simp <;> omega) | simp) _) | (apply below_drewN) | (apply below_drew) | (refine Below.setCell ?_ (by first | omega | (simp <;> omega) | simp) _)))⟩
    · have hl2 : (1048576 : Int) < (xs.length : Int) := by omega
      go_enter Try.func11, Try.ntmps11
      go_wp2_with fail
      go_ret
      exact ⟨rfl, (by repeat (first | assumption | exact Below.refl _ _ | (refine below_chain ?_ (by assumption) (by first | omega | (simp <;> omega) | simp)) | (refine Below.alloc ?_ (by first | omega | (simp <;> omega) | simp) _) | (apply below_drewN) | (apply below_drew) | (refine Below.setCell ?_ (by first | omega | (simp <;> omega) | simp) _)))⟩
  · have hm2 : (1048576 : Int) < (ls.length : Int) := by omega
    go_enter Try.func11, Try.ntmps11
    go_wp2_with fail
    go_ret
    exact ⟨rfl, (by repeat (first | assumption | exact Below.refl _ _ | (refine below_chain ?_ (by assumption) (by first | omega | (simp <;> omega) | simp)) | (refine Below.alloc ?_ (by first | omega | (simp <;> omega) | simp) _) | (apply below_drewN) | (apply below_drew) | (refine Below.setCell ?_ (by first | omega | (simp <;> omega) | simp) _)))⟩

set_option maxRecDepth 100000 in
theorem lifted (os : Os) (started : os.Started) (H : Type) (enc : TypeId × Value → H) :
    ReturnsInHanded {} Try.checked os 11 .any (Rows.fnExactShareOkSpec.pre6 enc Try.prog Try.f11 Rows.fnExactShareOkRow.domain false) (Rows.fnExactShareOkSpec.post enc Try.prog Try.f11 false true false false) := by
  refine returnsInHanded_of_change (C := Try.checked) own started (by kernel_rfl) Try.func11
    (ChangeSpec.witness6 (enc := enc) (C := Try.checked) false ⟨#[], #[.slice none 0 0, .int .i64 0, .slice none 0 0], []⟩ 8 (by kernel_rfl) (by kernel_rfl) (by kernel_rfl) (by kernel_rfl)) ?_
  intro W base args ds gs before hval0 hW hcnd _
  have hval : ∀ (j : Nat) t v, Try.f11.params[j]? = some t → args[j]? = some v → Value.okWide Try.prog W .any base t v := hval0
  have hW' := hW
  obtain ⟨p, q, hA0, hV, rfl, hfz, hnd⟩ := hW
  have hA : DataW.TrodAll enc Try.prog W 0 (fun _ => true) true Try.f11.params.toList args.toList ds p := hA0
  rw [Try.params11] at hA hval
  obtain ⟨v0, vs0, d0, ds0, p0, q0, hargs, rfl, rfl, h0, r0⟩ := trodAll_cons hA
  obtain ⟨v1, vs1, d1, ds1, p1, q1, rfl, rfl, rfl, h1, r1⟩ := trodAll_cons r0
  obtain ⟨v2, vs2, d2, ds2, p2, q2, rfl, rfl, rfl, h2, r2⟩ := trodAll_cons r1
  obtain ⟨rfl, rfl, rfl⟩ := trodAll_nil r2
  obtain rfl : args = #[v0, v1, v2] := by cases args; simp_all
  obtain ⟨rfl, rfl⟩ := trodVars_none hV
  obtain ⟨a0, len0, cap0, rfl⟩ := okWide_slice Try.underlying23 (hval 0 23 v0 rfl rfl)
  have k0 := h0
  have lt0 : ∀ x ∈ p0, x.block < W.heap.size := by obtain ⟨m, hm⟩ := k0; exact DataW.trod_lt m _ _ _ hm
  obtain ⟨x0, e0, r0', l0⟩ := open_nums h0
  subst e0
  obtain ⟨a1, rfl, rfl, rfl, w1⟩ := open_int Try.underlying3 (hval 1 3 v1 rfl rfl) h1
  obtain ⟨a2, len2, cap2, rfl⟩ := okWide_slice Try.underlying23 (hval 2 23 v2 rfl rfl)
  have k2 := h2
  have lt2 : ∀ x ∈ p2, x.block < W.heap.size := by obtain ⟨m, hm⟩ := k2; exact DataW.trod_lt m _ _ _ hm
  obtain ⟨x2, e2, r2', l2⟩ := open_nums h2
  subst e2
  clear hA0 hval0
  refine (walk W a0 cap0 x0 r0' l0 a1 w1 a2 cap2 x2 r2' l2).mono fun e W' ⟨he, bel⟩ => ?_
  subst he
  exact ⟨_, rfl, _, _, _, [], _, [], hW', trodAll_mk1 (shut_bool Try.underlying4 _), (trodAll_cons_mk (Below.trod laidOut (by kernel_rfl) (of_decide_eq_true (by kernel_rfl)) k0 bel lt0) (trodAll_cons_mk (shut_int Try.underlying3 w1) (trodAll_cons_mk (Below.trod laidOut (by kernel_rfl) (of_decide_eq_true (by kernel_rfl)) k2 bel lt2) trodAll_mk0))), rfl, bel.frame _, fun h => by cases h⟩

theorem over : Rows.fnExactShareOkRow.holds Try.pinned (OpenSpec.ofChange Rows.fnExactShareOkSpec) :=
  OpenClaim.holds_of_wide 11 Try.f11 rfl rfl rfl rfl rfl rfl rfl ⟨rfl, rfl, rfl, rfl, rfl⟩ rfl rfl rfl rfl rfl (by kernel_rfl) Try.func11 (by kernel_rfl)
    (of_decide_eq_true (by kernel_rfl)) (by unfold Func.isWrapper; first | (rw [if_pos (by decide +kernel)]; kernel_rfl) | (rw [if_neg (by decide +kernel)]; exact ⟨rfl, rfl⟩))
    (fun os started H enc _ => lifted os started H enc)

theorem proved : Rows.FnExactShareOkSaid :=
  over
end Go.Proofs.Ytjfbkafekkbcdaa.fnExactShareOk

