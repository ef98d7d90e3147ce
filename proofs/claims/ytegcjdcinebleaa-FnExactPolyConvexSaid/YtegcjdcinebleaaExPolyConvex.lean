/-
  For every list of points the law FnExactPolyConvex returns true: impl.PolyConvex answers as the reference model does, and leaves the list as it was. No condition: every list is taken.
-/
import Derived.Test.YtegcjdcinebleaaOpP
import Derived.Test.YtegcjdcinebleaaYra
import Derived.Test.YtegcjdcinebleaaYzc
import Derived.Test.YtegcjdcinebleaaYip
namespace Go.Proofs.Ytegcjdcinebleaa.fnExactPolyConvex
open Go.ChangeShapes Go.WideShapes Go.ChangeAt Go.RowKit Poly
set_option linter.unusedVariables false

theorem both (L : List P2) (hl4 : L.length ≤ 4000000000000000000) : ∃ (b : Bool), (∀ (w : World) (p : Option Addr), Ints w p (fl L) → Hid (Calls Try.prog 32 #[.slice p L.length L.length] w fun e w' => e = .returned (.bool b) ∧ Below w.heap.size w w')) ∧ (∀ (w : World) (p : Option Addr), Ints w p (fl L) → Hid (Calls Try.prog 31 #[.slice p L.length L.length] w fun e w' => e = .returned (.bool b) ∧ Below w.heap.size w w')) := by
  cases hv : polyV L
  · exact ⟨_, fun w p h => Lib.hid (sPolyConvex_no (p := p) (w := w) h hl4 hv), fun w p h => Lib.hid (iPolyConvex_no (p := p) (w := w) h (Nat.le_refl _) hl4 hv)⟩
  · exact ⟨_, fun w p h => Lib.hid (sPolyConvex_yes (p := p) (w := w) h hl4 hv), fun w p h => Lib.hid (iPolyConvex_yes (p := p) (w := w) h (Nat.le_refl _) hv)⟩
set_option maxHeartbeats 2000000 in
theorem walk (w : World) (p : Option Addr) (c : Nat) (L : List P2) (h : Ints w p (fl L)) (hl : L.length ≤ 9223372036854775807) :
    Calls Try.prog 12 #[.slice p L.length c] w fun e w' => e = .returned (.bool true) ∧ Below w.heap.size w w' := by
  have H := Lib.hid h
  clear h
  by_cases hl2 : L.length ≤ 1048576
  · have hl3 : ¬ (1048576 : Int) < (L.length : Int) := by omega
    have hl4 : L.length ≤ 4000000000000000000 := by omega
    obtain ⟨b, kS, kI⟩ := both L hl4
    go_enter Try.func12, Try.ntmps12
    go_wp2_with ((go_at_call 54; (with_reducible refine (szPts _ _ _ _ hl).mono ?_); rintro e w' ⟨rfl, rfl⟩))
    go_wp2_with ((go_at_call 55; (with_reducible refine (toPts p c L _ ?_ hl2).mono ?_); (focus ((exact H.out.below (by repeat (first | assumption | exact Below.refl _ _ | (refine below_chain ?_ (by assumption) (by first | omega | (simp <;> omega) | simp)) | (refine Below.alloc ?_ (by first | omega | (simp <;> omega) | simp) _) | (apply below_drewN) | (apply below_drew) | (refine Below.setCell ?_ (by first | omega | (simp <;> omega) | simp) _)))); done)); rintro e wa ⟨rfl, oa, hb_wa⟩; have hs_wa := hb_wa.size; (try simp at hs_wa)))
    have OA := Lib.hid oa
    clear oa
    go_wp2_with ((go_at_call 32; (with_reducible refine ((kS _ _ ?_).out).mono ?_); (focus ((exact OA.out.pts); done)); rintro e ws ⟨rfl, hb_ws⟩; have hs_ws := hb_ws.size; (try simp at hs_ws)))
    go_wp2_with ((go_at_call 55; (with_reducible refine (toPts p c L _ ?_ hl2).mono ?_); (focus ((exact H.out.below (by repeat (first | assumption | exact Below.refl _ _ | (refine below_chain ?_ (by assumption) (by first | omega | (simp <;> omega) | simp)) | (refine Below.alloc ?_ (by first | omega | (simp <;> omega) | simp) _) | (apply below_drewN) | (apply below_drew) | (refine Below.setCell ?_ (by first | omega | (simp <;> omega) | simp) _)))); done)); rintro e wb ⟨rfl, ob, hb_wb⟩; have hs_wb := hb_wb.size; (try simp at hs_wb)))
    have OB := Lib.hid ob
    clear ob
    go_wp2_with ((go_at_call 31; (with_reducible refine ((kI _ _ ?_).out).mono ?_); (focus ((exact OB.out.pts); done)); rintro e wi ⟨rfl, hb_wi⟩; have hs_wi := hb_wi.size; (try simp at hs_wi)))
    go_wp2_with ((go_at_call 55; (with_reducible refine (toPts p c L _ ?_ hl2).mono ?_); (focus ((exact H.out.below (by repeat (first | assumption | exact Below.refl _ _ | (refine below_chain ?_ (by assumption) (by first | omega | (simp <;> omega) | simp)) | (refine Below.alloc ?_ (by first | omega | (simp <;> omega) | simp) _) | (apply below_drewN) | (apply below_drew) | (refine Below.setCell ?_ (by first | omega | (simp <;> omega) | simp) _)))); done)); rintro e wc ⟨rfl, oc, hb_wc⟩; have hs_wc := hb_wc.size; (try simp at hs_wc)))
    have OC := Lib.hid oc
    clear oc
    go_wp2_with ((go_at_call 56; (with_reducible refine (eqPts _ _ _ _ L _ ?_ ?_ hl4).mono ?_); (focus ((exact (OB.out.below (by repeat (first | assumption | exact Below.refl _ _ | (refine below_chain ?_ (by assumption) (by first | omega | (simp <;> omega) | simp)) | (refine Below.alloc ?_ (by first | omega | (simp <;> omega) | simp) _) | (apply below_drewN) | (apply below_drew) | (refine Below.setCell ?_ (by first | omega | (simp <;> omega) | simp) _)))).pts); done)); (focus ((exact OC.out.pts); done)); rintro e we ⟨rfl, hb_we⟩; have hs_we := hb_we.size; (try simp at hs_we)))
    go_ret
    exact ⟨rfl, (by repeat (first | assumption | exact Below.refl _ _ | (refine below_chain ?_ (by assumption) (by first | omega | (simp <;> omega) | simp)) | (refine Below.alloc ?_ (by first | omega | (simp <;> omega) | simp) _) | (apply below_drewN) | (apply below_drew) | (refine Below.setCell ?_ (by first | omega | (simp <;> omega) | simp) _)))⟩
  · have hl3 : (1048576 : Int) < (L.length : Int) := by omega
    go_enter Try.func12, Try.ntmps12
    go_wp2_with ((go_at_call 54; (with_reducible refine (szPts _ _ _ _ hl).mono ?_); rintro e w' ⟨rfl, rfl⟩))
    go_ret
    exact ⟨rfl, (by repeat (first | assumption | exact Below.refl _ _ | (refine below_chain ?_ (by assumption) (by first | omega | (simp <;> omega) | simp)) | (refine Below.alloc ?_ (by first | omega | (simp <;> omega) | simp) _) | (apply below_drewN) | (apply below_drew) | (refine Below.setCell ?_ (by first | omega | (simp <;> omega) | simp) _)))⟩

set_option maxRecDepth 100000 in
theorem lifted (os : Os) (started : os.Started) (H : Type) (enc : TypeId × Value → H) :
    ReturnsInHanded {} Try.checked os 12 .any (Rows.fnExactPolyConvexSpec.pre6 enc Try.prog Try.f12 Rows.fnExactPolyConvexRow.domain false) (Rows.fnExactPolyConvexSpec.post enc Try.prog Try.f12 false true false false) := by
  refine returnsInHanded_of_change (C := Try.checked) own started (by kernel_rfl) Try.func12
    (ChangeSpec.witness6 (enc := enc) (C := Try.checked) false ⟨#[], #[.slice none 0 0], []⟩ 8 (by kernel_rfl) (by kernel_rfl) (by kernel_rfl) (by kernel_rfl)) ?_
  intro W base args ds gs before hval0 hW hcnd _
  have hval : ∀ (j : Nat) t v, Try.f12.params[j]? = some t → args[j]? = some v → Value.okWide Try.prog W .any base t v := hval0
  have hW' := hW
  obtain ⟨p, q, hA0, hV, rfl, hfz, hnd⟩ := hW
  have hA : DataW.TrodAll enc Try.prog W 0 (fun _ => true) true Try.f12.params.toList args.toList ds p := hA0
  rw [Try.params12] at hA hval
  obtain ⟨v0, vs0, d0, ds0, p0, q0, hargs, rfl, rfl, h0, r0⟩ := trodAll_cons hA
  obtain ⟨rfl, rfl, rfl⟩ := trodAll_nil r0
  obtain rfl : args = #[v0] := by cases args; simp_all
  obtain ⟨rfl, rfl⟩ := trodVars_none hV
  obtain ⟨a0, len0, cap0, rfl⟩ := okWide_slice Try.underlying55 (hval 0 55 v0 rfl rfl)
  have k0 := h0
  have lt0 : ∀ x ∈ p0, x.block < W.heap.size := by obtain ⟨m, hm⟩ := k0; exact DataW.trod_lt m _ _ _ hm
  obtain ⟨x0, e0, r0', l0⟩ := open_pts h0
  subst e0
  clear hA0 hval0
  refine (walk W a0 cap0 x0 r0' l0).mono fun e W' ⟨he, bel⟩ => ?_
  subst he
  exact ⟨_, rfl, _, _, _, [], _, [], hW', trodAll_mk1 (shut_bool Try.underlying4 _), (trodAll_cons_mk (Below.trod laidOut (by kernel_rfl) (of_decide_eq_true (by kernel_rfl)) k0 bel lt0) trodAll_mk0), rfl, bel.frame _, fun h => by cases h⟩

theorem over : Rows.fnExactPolyConvexRow.holds Try.pinned (OpenSpec.ofChange Rows.fnExactPolyConvexSpec) :=
  OpenClaim.holds_of_wide 12 Try.f12 rfl rfl rfl rfl rfl rfl rfl ⟨rfl, rfl, rfl, rfl, rfl⟩ rfl rfl rfl rfl rfl (by kernel_rfl) Try.func12 (by unfold joinedFacts; rw [seat_enter, seat_lift, seat_make]; kernel_rfl)
    (of_decide_eq_true (by kernel_rfl)) (by unfold Func.isWrapper; first | (rw [if_pos (by decide +kernel)]; kernel_rfl) | (rw [if_neg (by decide +kernel)]; exact ⟨rfl, rfl⟩))
    (fun os started H enc _ => lifted os started H enc)

theorem proved : Rows.FnExactPolyConvexSaid :=
  over
end Go.Proofs.Ytegcjdcinebleaa.fnExactPolyConvex

