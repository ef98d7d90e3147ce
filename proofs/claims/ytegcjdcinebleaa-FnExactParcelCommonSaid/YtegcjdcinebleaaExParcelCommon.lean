/-
  For every two lists of points the law FnExactParcelCommon returns true: impl.ParcelCommon counts the common sides of two parcels as the reference model does, and leaves both lists as they were. No condition: every two lists are taken.
-/
import Derived.Test.YtegcjdcinebleaaOpP
import Derived.Test.YtegcjdcinebleaaYra
import Derived.Test.YtegcjdcinebleaaPkw
import Derived.Test.YtegcjdcinebleaaPkz
namespace Go.Proofs.Ytegcjdcinebleaa.fnExactParcelCommon
open Go.ChangeShapes Go.WideShapes Go.ChangeAt Go.RowKit Poly
set_option linter.unusedVariables false

theorem szPtsV (p : Option Addr) (len c : Nat) (v : Int) (w : World) (hl : len ≤ 9223372036854775807) (h0 : 0 ≤ v) (h1 : v ≤ 1048576) :
    Calls Try.prog 54 #[.slice p len c, .int .i64 v] w fun e w' => e = .returned (.int .i64 (if v < (len : Int) then -1 else v - len)) ∧ w = w' := by
  by_cases h : v < (len : Int)
  · go_enter Try.func54, Try.ntmps54
    go_wp2_with fail
    go_ret
    exact ⟨by simp [h], rfl⟩
  · go_enter Try.func54, Try.ntmps54
    go_wp2_with fail
    go_ret
    exact ⟨by simp [h], rfl⟩
theorem both (L M : List P2) (hl4 : L.length ≤ 4000000000000000000) (hm4 : M.length ≤ 4000000000000000000) : ∃ (b : Int), (∀ (w : World) (p q : Option Addr), Ints w p (fl L) → Ints w q (fl M) → Hid (Calls Try.prog 53 #[.slice p L.length L.length, .slice q M.length M.length] w fun e w' => e = .returned (.int .i64 b) ∧ Below w.heap.size w w')) ∧ (∀ (w : World) (p q : Option Addr), Ints w p (fl L) → Ints w q (fl M) → Hid (Calls Try.prog 42 #[.slice p L.length L.length, .slice q M.length M.length] w fun e w' => e = .returned (.int .i64 b) ∧ Below w.heap.size w w')) := by
  cases hv : (parV L && parV M)
  · exact ⟨_, fun w p q h h' => Lib.hid (sParcelCommon_no (p := p) (q := q) (w := w) h h' hl4 hm4 hv), fun w p q h h' => Lib.hid (iParcelCommon_no (p := p) (q := q) (w := w) h h' (Nat.le_refl _) (Nat.le_refl _) hl4 hm4 hv)⟩
  · rw [Bool.and_eq_true] at hv
    exact ⟨_, fun w p q h h' => Lib.hid (sParcelCommon_yes (p := p) (q := q) (w := w) h h' hv.1 hv.2), fun w p q h h' => Lib.hid (iParcelCommon_yes (p := p) (q := q) (w := w) h h' (Nat.le_refl _) (Nat.le_refl _) hv.1 hv.2)⟩
set_option maxHeartbeats 4000000 in
theorem walk (w : World) (p : Option Addr) (c : Nat) (L : List P2) (h : Ints w p (fl L)) (hl : L.length ≤ 9223372036854775807) (q : Option Addr) (d : Nat) (M : List P2) (h' : Ints w q (fl M)) (hm : M.length ≤ 9223372036854775807) :
    Calls Try.prog 17 #[.slice p L.length c, .slice q M.length d] w fun e w' => e = .returned (.bool true) ∧ Below w.heap.size w w' := by
  have H := Lib.hid (And.intro h h')
  clear h h'
  by_cases hl2 : L.length ≤ 1048576
  · have hl3 : ¬ (1048576 : Int) < (L.length : Int) := by omega
    have hl4 : L.length ≤ 4000000000000000000 := by omega
    by_cases hm2 : (M.length : Int) ≤ 1048576 - (L.length : Int)
    · have hm3 : ¬ (1048576 : Int) - (L.length : Int) < (M.length : Int) := by omega
      have hm5 : M.length ≤ 1048576 := by omega
      have hm4 : M.length ≤ 4000000000000000000 := by omega
      obtain ⟨b, kS, kI⟩ := both L M hl4 hm4
      have hn1 : ¬ (1048576 : Int) - (L.length : Int) < 0 := by omega
      have hn2 : ¬ (1048576 : Int) - (L.length : Int) - (M.length : Int) < 0 := by omega
      go_enter Try.func17, Try.ntmps17
      go_wp2_with (first | (go_at_call 54; (with_reducible refine (szPts _ _ _ _ hl).mono ?_); rintro e w' ⟨rfl, rfl⟩) | (go_at_call 54; (with_reducible refine (szPtsV _ _ _ _ _ hm (by omega) (by omega)).mono ?_); rintro e w' ⟨rfl, rfl⟩) | ((go_at_call 55; (with_reducible refine (toPts p c L _ ?_ hl2).mono ?_); (focus ((exact H.out.1.below (by repeat (first | assumption | exact Below.refl _ _ | (refine below_chain ?_ (by assumption) (by first | omega | (simp <;> omega) | simp)) | (refine Below.alloc ?_ (by first | omega | (simp <;> omega) | simp) _) | (apply below_drewN) | (apply below_drew) | (refine Below.setCell ?_ (by first | omega | (simp <;> omega) | simp) _)))); done)); rintro e wa ⟨rfl, oa, hb_wa⟩; have hs_wa := hb_wa.size; (try simp at hs_wa)); have OA := Lib.hid oa; clear oa))
      go_wp2_with ((go_at_call 55; (with_reducible refine (toPts q d M _ ?_ hm5).mono ?_); (focus ((exact H.out.2.below (by repeat (first | assumption | exact Below.refl _ _ | (refine below_chain ?_ (by assumption) (by first | omega | (simp <;> omega) | simp)) | (refine Below.alloc ?_ (by first | omega | (simp <;> omega) | simp) _) | (apply below_drewN) | (apply below_drew) | (refine Below.setCell ?_ (by first | omega | (simp <;> omega) | simp) _)))); done)); rintro e wb ⟨rfl, ob, hb_wb⟩; have hs_wb := hb_wb.size; (try simp at hs_wb)))
      have OB := Lib.hid ob
      clear ob
      go_wp2_with ((go_at_call 53; (with_reducible refine ((kS _ _ _ ?_ ?_).out).mono ?_); (focus ((exact (OA.out.below (by repeat (first | assumption | exact Below.refl _ _ | (refine below_chain ?_ (by assumption) (by first | omega | (simp <;> omega) | simp)) | (refine Below.alloc ?_ (by first | omega | (simp <;> omega) | simp) _) | (apply below_drewN) | (apply below_drew) | (refine Below.setCell ?_ (by first | omega | (simp <;> omega) | simp) _)))).pts); done)); (focus ((exact OB.out.pts); done)); rintro e ws ⟨rfl, hb_ws⟩; have hs_ws := hb_ws.size; (try simp at hs_ws)))
      go_wp2_with ((go_at_call 55; (with_reducible refine (toPts p c L _ ?_ hl2).mono ?_); (focus ((exact H.out.1.below (by repeat (first | assumption | exact Below.refl _ _ | (refine below_chain ?_ (by assumption) (by first | omega | (simp <;> omega) | simp)) | (refine Below.alloc ?_ (by first | omega | (simp <;> omega) | simp) _) | (apply below_drewN) | (apply below_drew) | (refine Below.setCell ?_ (by first | omega | (simp <;> omega) | simp) _)))); done)); rintro e wc ⟨rfl, oc, hb_wc⟩; have hs_wc := hb_wc.size; (try simp at hs_wc)))
      have OC := Lib.hid oc
      clear oc
      go_wp2_with ((go_at_call 55; (with_reducible refine (toPts q d M _ ?_ hm5).mono ?_); (focus ((exact H.out.2.below (by repeat (first | assumption | exact Below.refl _ _ | (refine below_chain ?_ (by assumption) (by first | omega | (simp <;> omega) | simp)) | (refine Below.alloc ?_ (by first | omega | (simp <;> omega) | simp) _) | (apply below_drewN) | (apply below_drew) | (refine Below.setCell ?_ (by first | omega | (simp <;> omega) | simp) _)))); done)); rintro e wd ⟨rfl, od, hb_wd⟩; have hs_wd := hb_wd.size; (try simp at hs_wd)))
      have OD := Lib.hid od
      clear od
      go_wp2_with ((go_at_call 42; (with_reducible refine ((kI _ _ _ ?_ ?_).out).mono ?_); (focus ((exact (OC.out.below (by repeat (first | assumption | exact Below.refl _ _ | (refine below_chain ?_ (by assumption) (by first | omega | (simp <;> omega) | simp)) | (refine Below.alloc ?_ (by first | omega | (simp <;> omega) | simp) _) | (apply below_drewN) | (apply below_drew) | (refine Below.setCell ?_ (by first | omega | (simp <;> omega) | simp) _)))).pts); done)); (focus ((exact OD.out.pts); done)); rintro e wi ⟨rfl, hb_wi⟩; have hs_wi := hb_wi.size; (try simp at hs_wi)))
      go_wp2_with ((go_at_call 55; (with_reducible refine (toPts p c L _ ?_ hl2).mono ?_); (focus ((exact H.out.1.below (by repeat (first | assumption | exact Below.refl _ _ | (refine below_chain ?_ (by assumption) (by first | omega | (simp <;> omega) | simp)) | (refine Below.alloc ?_ (by first | omega | (simp <;> omega) | simp) _) | (apply below_drewN) | (apply below_drew) | (refine Below.setCell ?_ (by first | omega | (simp <;> omega) | simp) _)))); done)); rintro e we ⟨rfl, oe, hb_we⟩; have hs_we := hb_we.size; (try simp at hs_we)))
      have OE := Lib.hid oe
      clear oe
      go_wp2_with ((go_at_call 56; (with_reducible refine (eqPts _ _ _ _ L _ ?_ ?_ hl4).mono ?_); (focus ((exact (OC.out.below (by repeat (first | assumption | exact Below.refl _ _ | (refine below_chain ?_ (by assumption) (by first | omega | (simp <;> omega) | simp)) | (refine Below.alloc ?_ (by first | omega | (simp <;> omega) | simp) _) | (apply below_drewN) | (apply below_drew) | (refine Below.setCell ?_ (by first | omega | (simp <;> omega) | simp) _)))).pts); done)); (focus ((exact OE.out.pts); done)); rintro e wf ⟨rfl, hb_wf⟩; have hs_wf := hb_wf.size; (try simp at hs_wf)))
      go_wp2_with ((go_at_call 55; (with_reducible refine (toPts q d M _ ?_ hm5).mono ?_); (focus ((exact H.out.2.below (by repeat (first | assumption | exact Below.refl _ _ | (refine below_chain ?_ (by assumption) (by first | omega | (simp <;> omega) | simp)) | (refine Below.alloc ?_ (by first | omega | (simp <;> omega) | simp) _) | (apply below_drewN) | (apply below_drew) | (refine Below.setCell ?_ (by first | omega | (simp <;> omega) | simp) _)))); done)); rintro e wg ⟨rfl, og, hb_wg⟩; have hs_wg := hb_wg.size; (try simp at hs_wg)))
      have OG := Lib.hid og
      clear og
      go_wp2_with ((go_at_call 56; (with_reducible refine (eqPts _ _ _ _ M _ ?_ ?_ hm4).mono ?_); (focus ((exact (OD.out.below (by repeat (first | assumption | exact Below.refl _ _ | (refine below_chain ?_ (by assumption) (by first | omega | (simp <;> omega) | simp)) | (refine Below.alloc ?_ (by first | omega | (simp <;> omega) | simp) _) | (apply below_drewN) | (apply below_drew) | (refine Below.setCell ?_ (by first | omega | (simp <;> omega) | simp) _)))).pts); done)); (focus ((exact OG.out.pts); done)); rintro e wh ⟨rfl, hb_wh⟩; have hs_wh := hb_wh.size; (try simp at hs_wh)))
      go_ret
      exact ⟨rfl, (by repeat (first | assumption | exact Below.refl _ _ | (refine below_chain ?_ (by assumption) (by first | omega | (simp <;> omega) | simp)) | (refine Below.alloc ?_ (by first | omega | (simp <;> omega) | simp) _) | (apply below_drewN) | (apply below_drew) | (refine Below.setCell ?_ (by first | omega | (simp <;> omega) | simp) _)))⟩
    · have hm3 : (1048576 : Int) - (L.length : Int) < (M.length : Int) := by omega
      go_enter Try.func17, Try.ntmps17
      go_wp2_with (first | (go_at_call 54; (with_reducible refine (szPts _ _ _ _ hl).mono ?_); rintro e w' ⟨rfl, rfl⟩) | (go_at_call 54; (with_reducible refine (szPtsV _ _ _ _ _ hm (by omega) (by omega)).mono ?_); rintro e w' ⟨rfl, rfl⟩))
      go_ret
      exact ⟨rfl, (by repeat (first | assumption | exact Below.refl _ _ | (refine below_chain ?_ (by assumption) (by first | omega | (simp <;> omega) | simp)) | (refine Below.alloc ?_ (by first | omega | (simp <;> omega) | simp) _) | (apply below_drewN) | (apply below_drew) | (refine Below.setCell ?_ (by first | omega | (simp <;> omega) | simp) _)))⟩
  · have hl3 : (1048576 : Int) < (L.length : Int) := by omega
    go_enter Try.func17, Try.ntmps17
    go_wp2_with ((go_at_call 54; (with_reducible refine (szPts _ _ _ _ hl).mono ?_); rintro e w' ⟨rfl, rfl⟩))
    go_ret
    exact ⟨rfl, (by repeat (first | assumption | exact Below.refl _ _ | (refine below_chain ?_ (by assumption) (by first | omega | (simp <;> omega) | simp)) | (refine Below.alloc ?_ (by first | omega | (simp <;> omega) | simp) _) | (apply below_drewN) | (apply below_drew) | (refine Below.setCell ?_ (by first | omega | (simp <;> omega) | simp) _)))⟩

set_option maxRecDepth 100000 in
theorem lifted (os : Os) (started : os.Started) (H : Type) (enc : TypeId × Value → H) :
    ReturnsInHanded {} Try.checked os 17 .any (Rows.fnExactParcelCommonSpec.pre6 enc Try.prog Try.f17 Rows.fnExactParcelCommonRow.domain false) (Rows.fnExactParcelCommonSpec.post enc Try.prog Try.f17 false true false false) := by
  refine returnsInHanded_of_change (C := Try.checked) own started (by kernel_rfl) Try.func17
    (ChangeSpec.witness6 (enc := enc) (C := Try.checked) false ⟨#[], #[.slice none 0 0, .slice none 0 0], []⟩ 8 (by kernel_rfl) (by kernel_rfl) (by kernel_rfl) (by kernel_rfl)) ?_
  intro W base args ds gs before hval0 hW hcnd _
  have hval : ∀ (j : Nat) t v, Try.f17.params[j]? = some t → args[j]? = some v → Value.okWide Try.prog W .any base t v := hval0
  have hW' := hW
  obtain ⟨p, q, hA0, hV, rfl, hfz, hnd⟩ := hW
  have hA : DataW.TrodAll enc Try.prog W 0 (fun _ => true) true Try.f17.params.toList args.toList ds p := hA0
  rw [Try.params17] at hA hval
  obtain ⟨v0, vs0, d0, ds0, p0, q0, hargs, rfl, rfl, h0, r0⟩ := trodAll_cons hA
  obtain ⟨v1, vs1, d1, ds1, p1, q1, rfl, rfl, rfl, h1, r1⟩ := trodAll_cons r0
  obtain ⟨rfl, rfl, rfl⟩ := trodAll_nil r1
  obtain rfl : args = #[v0, v1] := by cases args; simp_all
  obtain ⟨rfl, rfl⟩ := trodVars_none hV
  obtain ⟨a0, len0, cap0, rfl⟩ := okWide_slice Try.underlying55 (hval 0 55 v0 rfl rfl)
  have k0 := h0
  have lt0 : ∀ x ∈ p0, x.block < W.heap.size := by obtain ⟨m, hm⟩ := k0; exact DataW.trod_lt m _ _ _ hm
  obtain ⟨x0, e0, r0', l0⟩ := open_pts h0
  subst e0
  obtain ⟨a1, len1, cap1, rfl⟩ := okWide_slice Try.underlying55 (hval 1 55 v1 rfl rfl)
  have k1 := h1
  have lt1 : ∀ x ∈ p1, x.block < W.heap.size := by obtain ⟨m, hm⟩ := k1; exact DataW.trod_lt m _ _ _ hm
  obtain ⟨x1, e1, r1', l1⟩ := open_pts h1
  subst e1
  clear hA0 hval0
  refine (walk W a0 cap0 x0 r0' l0 a1 cap1 x1 r1' l1).mono fun e W' ⟨he, bel⟩ => ?_
  subst he
  exact ⟨_, rfl, _, _, _, [], _, [], hW', trodAll_mk1 (shut_bool Try.underlying4 _), (trodAll_cons_mk (Below.trod laidOut (by kernel_rfl) (of_decide_eq_true (by kernel_rfl)) k0 bel lt0) (trodAll_cons_mk (Below.trod laidOut (by kernel_rfl) (of_decide_eq_true (by kernel_rfl)) k1 bel lt1) trodAll_mk0)), rfl, bel.frame _, fun h => by cases h⟩

theorem over : Rows.fnExactParcelCommonRow.holds Try.pinned (OpenSpec.ofChange Rows.fnExactParcelCommonSpec) :=
  OpenClaim.holds_of_wide 17 Try.f17 rfl rfl rfl rfl rfl rfl rfl ⟨rfl, rfl, rfl, rfl, rfl⟩ rfl rfl rfl rfl rfl (by kernel_rfl) Try.func17 (by unfold joinedFacts; rw [seat_enter, seat_lift, seat_make]; kernel_rfl)
    (of_decide_eq_true (by kernel_rfl)) (by unfold Func.isWrapper; first | (rw [if_pos (by decide +kernel)]; kernel_rfl) | (rw [if_neg (by decide +kernel)]; exact ⟨rfl, rfl⟩))
    (fun os started H enc _ => lifted os started H enc)

theorem proved : Rows.FnExactParcelCommonSaid :=
  over
end Go.Proofs.Ytegcjdcinebleaa.fnExactParcelCommon

