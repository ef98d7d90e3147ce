/-
  For every list of points the law FnExactTravelGap returns true: impl.TravelGap answers the sum of all steps as the reference model does, in every field, and leaves the list as it was. No condition: every list is taken.
-/
import Derived.Test.YtgncjpakclbegaaOpP
import Derived.Test.YtgncjpakclbegaaHe
import Derived.Test.YtgncjpakclbegaaHh
namespace Go.Proofs.Ytgncjpakclbegaa.fnExactTravelGap
open Go.ChangeShapes Go.WideShapes Go.ChangeAt Go.RowKit Poly
set_option linter.unusedVariables false

theorem both (L : List P2) (hl4 : L.length ≤ 4000000000000000000) : ∃ (x : Int) (y : Int) (b : Bool), (∀ (w : World) (p : Option Addr), Ints w p (Poly.fl L) → Hid (Calls Try.prog 57 #[.slice p L.length L.length] w fun e w' => e = .returned (.tuple #[.agg #[.int .i64 x, .int .i64 y], .bool b]) ∧ Below w.heap.size w w')) ∧ (∀ (w : World) (p : Option Addr), Ints w p (Poly.fl L) → Hid (Calls Try.prog 35 #[.slice p L.length L.length] w fun e w' => e = .returned (.tuple #[.agg #[.int .i64 x, .int .i64 y], .bool b]) ∧ Below w.heap.size w w')) := by
  cases hv : tvV L
  · exact ⟨0, 0, false, fun w p h => Lib.hid (sTravelGap_no (p := p) (w := w) h rfl hl4 hv), fun w p h => Lib.hid (iTravelGap_no (p := p) (w := w) h rfl hv)⟩
  · exact ⟨(gapT L).1, (gapT L).2, true, fun w p h => Lib.hid (sTravelGap_yes (p := p) (w := w) h rfl hv rfl), fun w p h => Lib.hid (iTravelGap_yes (p := p) (w := w) h rfl hv rfl)⟩
set_option maxHeartbeats 4000000 in
theorem walk (w : World) (p : Option Addr) (c : Nat) (L : List P2) (h : Ints w p (Poly.fl L)) (hl : L.length ≤ 9223372036854775807) :
    Calls Try.prog 14 #[.slice p L.length c] w fun e w' => e = .returned (.bool true) ∧ Below w.heap.size w w' := by
  have H := Lib.hid h
  clear h
  by_cases hl2 : L.length ≤ 1048576
  · have hl3 : ¬ (1048576 : Int) < (L.length : Int) := by omega
    have hl4 : L.length ≤ 4000000000000000000 := by omega
    obtain ⟨x, y, b, kS, kI⟩ := both L hl4
    go_enter Try.func14, Try.ntmps14
    go_wp2_with ((go_at_call 48; (with_reducible refine (szPts _ _ _ _ hl).mono ?_); rintro e w' ⟨rfl, rfl⟩))
    go_wp2_with ((go_at_call 50; (with_reducible refine (toPts p c L _ ?_ hl2).mono ?_); (focus ((exact H.out.below (by repeat (first | assumption | exact Below.refl _ _ | (refine below_chain ?_ (by assumption) (by first | omega | (simp <;> omega) | simp)) | (refine Below.alloc ?_ (by first | omega | (simp <;> omega) | simp) _) | (apply below_drewN) | (apply below_drew) | (refine Below.setCell ?_ (by first | omega | (simp <;> omega) | simp) _)))); done)); rintro e wa ⟨rfl, oa, hb_wa⟩; have hs_wa := hb_wa.size; (try simp at hs_wa)))
    have OA := Lib.hid oa
    clear oa
    go_wp2_with ((go_at_call 57; (with_reducible refine ((kS _ _ ?_).out).mono ?_); (focus ((exact OA.out.pts); done)); rintro e ws ⟨rfl, hb_ws⟩; have hs_ws := hb_ws.size; (try simp at hs_ws)))
    go_wp2_with ((go_at_call 50; (with_reducible refine (toPts p c L _ ?_ hl2).mono ?_); (focus ((exact H.out.below (by repeat (first | assumption | exact Below.refl _ _ | (refine below_chain ?_ (by assumption) (by first | omega | (simp <;> omega) | simp)) | (refine Below.alloc ?_ (by first | omega | (simp <;> omega) | simp) _) | (apply below_drewN) | (apply below_drew) | (refine Below.setCell ?_ (by first | omega | (simp <;> omega) | simp) _)))); done)); rintro e wb ⟨rfl, ob, hb_wb⟩; have hs_wb := hb_wb.size; (try simp at hs_wb)); obtain ⟨hc_wb, hf_wb⟩ := bcell hb_wb; have k0 : wb.cell? ⟨ws.heap.size, 0, none⟩ = some (.int .i64 x) := (by rw [hc_wb _ _ (by simp)]; simp [go_sem]); have k1 : wb.cell? ⟨ws.heap.size, 1, none⟩ = some (.int .i64 y) := (by rw [hc_wb _ _ (by simp)]; simp [go_sem]); have l0 : ws.heap.size < wb.heap.size := (by omega))
    have OB := Lib.hid (show Own wb (ws.heap.size + 1) 31 2 L.length L.length (Poly.fl L) by simpa using ob)
    clear ob
    go_wp2_with ((go_at_call 35; (with_reducible refine ((kI _ _ ?_).out).mono ?_); (focus ((exact OB.out.pts); done)); rintro e wi ⟨rfl, hb_wi⟩; have hs_wi := hb_wi.size; (try simp at hs_wi)); have k0 := cell_below_keep hb_wi k0; have k1 := cell_below_keep hb_wi k1; have l0 : ws.heap.size < wi.heap.size := (by omega))
    go_wp2_with ((go_at_call 56; (with_reducible refine (eqPoint_any _ _ _).mono ?_); rintro e wq ⟨rfl, hb_wq⟩; have hs_wq := hb_wq.size; (try simp at hs_wq)))
    go_wp2_with ((go_at_call 50; (with_reducible refine (toPts p c L _ ?_ hl2).mono ?_); (focus ((exact H.out.below (by repeat (first | assumption | exact Below.refl _ _ | (refine below_chain ?_ (by assumption) (by first | omega | (simp <;> omega) | simp)) | (refine Below.alloc ?_ (by first | omega | (simp <;> omega) | simp) _) | (apply below_drewN) | (apply below_drew) | (refine Below.setCell ?_ (by first | omega | (simp <;> omega) | simp) _)))); done)); rintro e wc ⟨rfl, oc, hb_wc⟩; have hs_wc := hb_wc.size; (try simp at hs_wc)))
    have OC := Lib.hid oc
    clear oc
    go_wp2_with ((go_at_call 52; (with_reducible refine (eqPts _ _ _ _ L _ ?_ ?_ hl4).mono ?_); (focus ((exact (OB.out.below (by repeat (first | assumption | exact Below.refl _ _ | (refine below_chain ?_ (by assumption) (by first | omega | (simp <;> omega) | simp)) | (refine Below.alloc ?_ (by first | omega | (simp <;> omega) | simp) _) | (apply below_drewN) | (apply below_drew) | (refine Below.setCell ?_ (by first | omega | (simp <;> omega) | simp) _)))).pts); done)); (focus ((exact OC.out.pts); done)); rintro e we ⟨rfl, hb_we⟩; have hs_we := hb_we.size; (try simp at hs_we)))
    go_ret
    exact ⟨rfl, (by repeat (first | assumption | exact Below.refl _ _ | (refine below_chain ?_ (by assumption) (by first | omega | (simp <;> omega) | simp)) | (refine Below.alloc ?_ (by first | omega | (simp <;> omega) | simp) _) | (apply below_drewN) | (apply below_drew) | (refine Below.setCell ?_ (by first | omega | (simp <;> omega) | simp) _)))⟩
  · have hl3 : (1048576 : Int) < (L.length : Int) := by omega
    go_enter Try.func14, Try.ntmps14
    go_wp2_with ((go_at_call 48; (with_reducible refine (szPts _ _ _ _ hl).mono ?_); rintro e w' ⟨rfl, rfl⟩))
    go_ret
    exact ⟨rfl, (by repeat (first | assumption | exact Below.refl _ _ | (refine below_chain ?_ (by assumption) (by first | omega | (simp <;> omega) | simp)) | (refine Below.alloc ?_ (by first | omega | (simp <;> omega) | simp) _) | (apply below_drewN) | (apply below_drew) | (refine Below.setCell ?_ (by first | omega | (simp <;> omega) | simp) _)))⟩

set_option maxRecDepth 100000 in
theorem lifted (os : Os) (started : os.Started) (H : Type) (enc : TypeId × Value → H) :
    ReturnsInHanded {} Try.checked os 14 .any (Rows.fnExactTravelGapSpec.pre6 enc Try.prog Try.f14 Rows.fnExactTravelGapRow.domain false) (Rows.fnExactTravelGapSpec.post enc Try.prog Try.f14 false true false false) := by
  refine returnsInHanded_of_change (C := Try.checked) own started (by kernel_rfl) Try.func14
    (ChangeSpec.witness6 (enc := enc) (C := Try.checked) false ⟨#[], #[.slice none 0 0], []⟩ 8 (by kernel_rfl) (by kernel_rfl) (by kernel_rfl) (by kernel_rfl)) ?_
  intro W base args ds gs before hval0 hW hcnd _
  have hval : ∀ (j : Nat) t v, Try.f14.params[j]? = some t → args[j]? = some v → Value.okWide Try.prog W .any base t v := hval0
  have hW' := hW
  obtain ⟨p, q, hA0, hV, rfl, hfz, hnd⟩ := hW
  have hA : DataW.TrodAll enc Try.prog W 0 (fun _ => true) true Try.f14.params.toList args.toList ds p := hA0
  rw [Try.params14] at hA hval
  obtain ⟨v0, vs0, d0, ds0, p0, q0, hargs, rfl, rfl, h0, r0⟩ := trodAll_cons hA
  obtain ⟨rfl, rfl, rfl⟩ := trodAll_nil r0
  obtain rfl : args = #[v0] := by cases args; simp_all
  obtain ⟨rfl, rfl⟩ := trodVars_none hV
  obtain ⟨a0, len0, cap0, rfl⟩ := okWide_slice Try.underlying48 (hval 0 48 v0 rfl rfl)
  have k0 := h0
  have lt0 : ∀ x ∈ p0, x.block < W.heap.size := by obtain ⟨m, hm⟩ := k0; exact DataW.trod_lt m _ _ _ hm
  obtain ⟨x0, e0, r0', l0⟩ := open_pts h0
  subst e0
  clear hA0 hval0
  refine (walk W a0 cap0 x0 r0' l0).mono fun e W' ⟨he, bel⟩ => ?_
  subst he
  exact ⟨_, rfl, _, _, _, [], _, [], hW', trodAll_mk1 (shut_bool Try.underlying4 _), (trodAll_cons_mk (Below.trod laidOut (by kernel_rfl) (of_decide_eq_true (by kernel_rfl)) k0 bel lt0) trodAll_mk0), rfl, bel.frame _, fun h => by cases h⟩

theorem over : Rows.fnExactTravelGapRow.holds Try.pinned (OpenSpec.ofChange Rows.fnExactTravelGapSpec) :=
  OpenClaim.holds_of_wide 14 Try.f14 rfl rfl rfl rfl rfl rfl rfl ⟨rfl, rfl, rfl, rfl, rfl⟩ rfl rfl rfl rfl rfl (by kernel_rfl) Try.func14 (by unfold joinedFacts; rw [seat_enter, seat_lift, seat_make]; kernel_rfl)
    (of_decide_eq_true (by kernel_rfl)) (by unfold Func.isWrapper; first | (rw [if_pos (by decide +kernel)]; kernel_rfl) | (rw [if_neg (by decide +kernel)]; exact ⟨rfl, rfl⟩))
    (fun os started H enc _ => lifted os started H enc)

theorem proved : Rows.FnExactTravelGapSaid :=
  over
end Go.Proofs.Ytgncjpakclbegaa.fnExactTravelGap

