/-
  For every list of lists of numbers the law FnExactMatDet returns true: impl.MatDet answers the determinant as the reference model does, and leaves its argument as it was. No condition: every list of lists is taken.
-/
import Derived.Test.YthpfhbogpnhgmaaNk2
import Derived.Test.YthpfhbogpnhgmaaMi
import Derived.Test.YthpfhbogpnhgmaaGOpen
namespace Go.Proofs.Ythpfhbogpnhgmaa.fnExactMatDet
open Go.ChangeShapes Go.WideShapes Go.ChangeAt Go.RowKit
set_option linter.unusedVariables false

set_option maxHeartbeats 4000000 in
theorem walk (w : World) (p : Option Addr) (c : Nat) (L : List (List Int)) (h : GRead w p L) (hl : L.length ≤ 9223372036854775807 ∧ ∀ r ∈ L, r.length ≤ 9223372036854775807) :
    Calls Try.prog 9 #[.slice p L.length c] w fun e w' => e = .returned (.bool true) ∧ Below w.heap.size w w' := by
  have H := Lib.hid h
  have HL := Lib.hid hl
  clear h hl
  go_enter Try.func9, Try.ntmps9
  go_upto_region 3 with (go_at_call 30; (with_reducible refine (szG c p L 1048576 _ H.out HL.out.1 HL.out.2 (by omega) (by omega)).mono ?_); rintro e w' ⟨u, rfl, rfl, hu1, hu2⟩)
  by_cases hu : u < 0
  · clear hu2
    go_wp2_with fail
    go_ret
    exact ⟨rfl, Below.refl _ _⟩
  · obtain ⟨hk, hr⟩ := hu2 (by omega)
    have hr0 := Lib.hid hr
    obtain ⟨b, hb⟩ : ∃ b, matOk L = b := ⟨_, rfl⟩
    have hb0 := Lib.hid hb
    have hk3 : L.length ≤ 4000000000000000000 := by omega
    clear hb hr
    cases b
    · go_wp2_with ((go_at_call 32; (with_reducible refine (toG _ c p L _ ?_ rfl hk hr0.out).mono ?_); (focus ((exact H.out); done)); rintro e wa ⟨ba, rfl, oa, hb_wa⟩; have hs_wa := hb_wa.size; (try simp at hs_wa)))
      have OA := Lib.hid oa
      clear oa
      go_wp2_with ((go_at_call 16; (with_reducible refine (sMatDet_no _ _ _ L _ ?_ rfl hk3 hb0.out).mono ?_); (focus ((exact OA.out.read); done)); rintro e ws ⟨rfl, hb_ws⟩; have hs_ws := hb_ws.size; (try simp at hs_ws)))
      go_wp2_with ((go_at_call 32; (with_reducible refine (toG _ c p L _ ?_ rfl hk hr0.out).mono ?_); (focus ((exact H.out.below (by repeat (first | assumption | exact Below.refl _ _ | (refine below_chain ?_ (by assumption) (by first | omega | (simp <;> omega) | simp)) | (refine Below.alloc ?_ (by first | omega | (simp <;> omega) | simp) _) | (apply below_drewN) | (apply below_drew) | (refine Below.setCell ?_ (by first | omega | (simp <;> omega) | simp) _)))); done)); rintro e wb ⟨bb, rfl, ob, hb_wb⟩; have hs_wb := hb_wb.size; (try simp at hs_wb)))
      have OB := Lib.hid ob
      clear ob
      go_wp2_with ((go_at_call 15; (with_reducible refine (iMatDet_no _ _ _ L _ ?_ rfl hk3 hb0.out).mono ?_); (focus ((exact OB.out.read); done)); rintro e wi ⟨rfl, hb_wi⟩; have hs_wi := hb_wi.size; (try simp at hs_wi)))
      go_wp2_with ((go_at_call 32; (with_reducible refine (toG _ c p L _ ?_ rfl hk hr0.out).mono ?_); (focus ((exact H.out.below (by repeat (first | assumption | exact Below.refl _ _ | (refine below_chain ?_ (by assumption) (by first | omega | (simp <;> omega) | simp)) | (refine Below.alloc ?_ (by first | omega | (simp <;> omega) | simp) _) | (apply below_drewN) | (apply below_drew) | (refine Below.setCell ?_ (by first | omega | (simp <;> omega) | simp) _)))); done)); rintro e wc ⟨bc, rfl, oc, hb_wc⟩; have hs_wc := hb_wc.size; (try simp at hs_wc)))
      have OC := Lib.hid oc
      clear oc
      go_wp2_with ((go_at_call 34; (with_reducible refine (eqG _ _ _ _ L _ ?_ ?_ hk hr0.out).mono ?_); (focus ((exact OB.out.read.below (by repeat (first | assumption | exact Below.refl _ _ | (refine below_chain ?_ (by assumption) (by first | omega | (simp <;> omega) | simp)) | (refine Below.alloc ?_ (by first | omega | (simp <;> omega) | simp) _) | (apply below_drewN) | (apply below_drew) | (refine Below.setCell ?_ (by first | omega | (simp <;> omega) | simp) _)))); done)); (focus ((exact OC.out.read); done)); rintro e we ⟨rfl, hb_we⟩; have hs_we := hb_we.size; (try simp at hs_we)))
      go_ret
      exact ⟨rfl, (by repeat (first | assumption | exact Below.refl _ _ | (refine below_chain ?_ (by assumption) (by first | omega | (simp <;> omega) | simp)) | (refine Below.alloc ?_ (by first | omega | (simp <;> omega) | simp) _) | (apply below_drewN) | (apply below_drew) | (refine Below.setCell ?_ (by first | omega | (simp <;> omega) | simp) _)))⟩
    · obtain ⟨D, hD⟩ : ∃ D, det L.length (ent L) = D := ⟨_, rfl⟩
      have c1 := fun (k' : Nat) p w h => Lib.hid (sMatDet_yes L.length k' p L w h rfl hb0.out)
      have c2 := fun (k' : Nat) p w h => Lib.hid (iMatDet_yes L.length k' p L w h rfl hb0.out)
      rw [hD] at c1 c2
      clear hD
      go_wp2_with ((go_at_call 32; (with_reducible refine (toG _ c p L _ ?_ rfl hk hr0.out).mono ?_); (focus ((exact H.out); done)); rintro e wa ⟨ba, rfl, oa, hb_wa⟩; have hs_wa := hb_wa.size; (try simp at hs_wa)))
      have OA := Lib.hid oa
      clear oa
      go_wp2_with ((go_at_call 16; (with_reducible refine ((c1 _ _ _ ?_).out).mono ?_); (focus ((exact OA.out.read); done)); rintro e ws ⟨rfl, hb_ws⟩; have hs_ws := hb_ws.size; (try simp at hs_ws)))
      go_wp2_with ((go_at_call 32; (with_reducible refine (toG _ c p L _ ?_ rfl hk hr0.out).mono ?_); (focus ((exact H.out.below (by repeat (first | assumption | exact Below.refl _ _ | (refine below_chain ?_ (by assumption) (by first | omega | (simp <;> omega) | simp)) | (refine Below.alloc ?_ (by first | omega | (simp <;> omega) | simp) _) | (apply below_drewN) | (apply below_drew) | (refine Below.setCell ?_ (by first | omega | (simp <;> omega) | simp) _)))); done)); rintro e wb ⟨bb, rfl, ob, hb_wb⟩; have hs_wb := hb_wb.size; (try simp at hs_wb)))
      have OB := Lib.hid ob
      clear ob
      go_wp2_with ((go_at_call 15; (with_reducible refine ((c2 _ _ _ ?_).out).mono ?_); (focus ((exact OB.out.read); done)); rintro e wi ⟨rfl, hb_wi⟩; have hs_wi := hb_wi.size; (try simp at hs_wi)))
      go_wp2_with ((go_at_call 32; (with_reducible refine (toG _ c p L _ ?_ rfl hk hr0.out).mono ?_); (focus ((exact H.out.below (by repeat (first | assumption | exact Below.refl _ _ | (refine below_chain ?_ (by assumption) (by first | omega | (simp <;> omega) | simp)) | (refine Below.alloc ?_ (by first | omega | (simp <;> omega) | simp) _) | (apply below_drewN) | (apply below_drew) | (refine Below.setCell ?_ (by first | omega | (simp <;> omega) | simp) _)))); done)); rintro e wc ⟨bc, rfl, oc, hb_wc⟩; have hs_wc := hb_wc.size; (try simp at hs_wc)))
      have OC := Lib.hid oc
      clear oc
      go_wp2_with ((go_at_call 34; (with_reducible refine (eqG _ _ _ _ L _ ?_ ?_ hk hr0.out).mono ?_); (focus ((exact OB.out.read.below (by repeat (first | assumption | exact Below.refl _ _ | (refine below_chain ?_ (by assumption) (by first | omega | (simp <;> omega) | simp)) | (refine Below.alloc ?_ (by first | omega | (simp <;> omega) | simp) _) | (apply below_drewN) | (apply below_drew) | (refine Below.setCell ?_ (by first | omega | (simp <;> omega) | simp) _)))); done)); (focus ((exact OC.out.read); done)); rintro e we ⟨rfl, hb_we⟩; have hs_we := hb_we.size; (try simp at hs_we)))
      go_ret
      exact ⟨rfl, (by repeat (first | assumption | exact Below.refl _ _ | (refine below_chain ?_ (by assumption) (by first | omega | (simp <;> omega) | simp)) | (refine Below.alloc ?_ (by first | omega | (simp <;> omega) | simp) _) | (apply below_drewN) | (apply below_drew) | (refine Below.setCell ?_ (by first | omega | (simp <;> omega) | simp) _)))⟩

set_option maxRecDepth 100000 in
theorem lifted (os : Os) (started : os.Started) (H : Type) (enc : TypeId × Value → H) :
    ReturnsInHanded {} Try.checked os 9 .any (Rows.fnExactMatDetSpec.pre6 enc Try.prog Try.f9 Rows.fnExactMatDetRow.domain false) (Rows.fnExactMatDetSpec.post enc Try.prog Try.f9 false true false false) := by
  refine returnsInHanded_of_change (C := Try.checked) own started (by kernel_rfl) Try.func9
    (ChangeSpec.witness6 (enc := enc) (C := Try.checked) false ⟨#[], #[.slice none 0 0], []⟩ 8 (by kernel_rfl) (by kernel_rfl) (by kernel_rfl) (by kernel_rfl)) ?_
  intro W base args ds gs before hval0 hW hcnd _
  have hval : ∀ (j : Nat) t v, Try.f9.params[j]? = some t → args[j]? = some v → Value.okWide Try.prog W .any base t v := hval0
  have hW' := hW
  obtain ⟨p, q, hA0, hV, rfl, hfz, hnd⟩ := hW
  have hA : DataW.TrodAll enc Try.prog W 0 (fun _ => true) true Try.f9.params.toList args.toList ds p := hA0
  rw [Try.params9] at hA hval
  obtain ⟨v0, vs0, d0, ds0, p0, q0, hargs, rfl, rfl, h0, r0⟩ := trodAll_cons hA
  obtain ⟨rfl, rfl, rfl⟩ := trodAll_nil r0
  obtain rfl : args = #[v0] := by cases args; simp_all
  obtain ⟨rfl, rfl⟩ := trodVars_none hV
  obtain ⟨a0, len0, cap0, rfl⟩ := okWide_slice Try.underlying23 (hval 0 23 v0 rfl rfl)
  have k0 := h0
  have lt0 : ∀ x ∈ p0, x.block < W.heap.size := by obtain ⟨m, hm⟩ := k0; exact DataW.trod_lt m _ _ _ hm
  obtain ⟨x0, e0, r0', l0⟩ := open_grid h0
  subst e0
  clear hA0 hval0
  refine (walk W a0 cap0 x0 r0' l0).mono fun e W' ⟨he, bel⟩ => ?_
  subst he
  exact ⟨_, rfl, _, _, _, [], _, [], hW', trodAll_mk1 (shut_bool Try.underlying4 _), (trodAll_cons_mk (Below.trod laidOut (by kernel_rfl) (of_decide_eq_true (by kernel_rfl)) k0 bel lt0) trodAll_mk0), rfl, bel.frame _, fun h => by cases h⟩

theorem over : Rows.fnExactMatDetRow.holds Try.pinned (OpenSpec.ofChange Rows.fnExactMatDetSpec) :=
  OpenClaim.holds_of_wide 9 Try.f9 rfl rfl rfl rfl rfl rfl rfl ⟨rfl, rfl, rfl, rfl, rfl⟩ rfl rfl rfl rfl rfl (by kernel_rfl) Try.func9 (by kernel_rfl)
    (of_decide_eq_true (by kernel_rfl)) (by unfold Func.isWrapper; first | (rw [if_pos (by decide +kernel)]; kernel_rfl) | (rw [if_neg (by decide +kernel)]; exact ⟨rfl, rfl⟩))
    (fun os started H enc _ => lifted os started H enc)

theorem proved : Rows.FnExactMatDetSaid :=
  over
end Go.Proofs.Ythpfhbogpnhgmaa.fnExactMatDet

