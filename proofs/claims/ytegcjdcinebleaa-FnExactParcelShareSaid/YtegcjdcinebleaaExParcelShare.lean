/-
  For every list of points and every two indexes the law FnExactParcelShare returns true: impl.ParcelShare answers the share of the first part as the reference model does, in every field, and leaves the list as it was. No condition: every list and every two indexes are taken.
-/
import Derived.Test.YtegcjdcinebleaaOpP
import Derived.Test.YtegcjdcinebleaaYra
import Derived.Test.YtegcjdcinebleaaPky
import Derived.Test.YtegcjdcinebleaaPkv
namespace Go.Proofs.Ytegcjdcinebleaa.fnExactParcelShare
open Go.ChangeShapes Go.WideShapes Go.ChangeAt Go.RowKit Poly
set_option linter.unusedVariables false

theorem eqQuo_same (x y : Int) (w : World) :
    Calls Try.prog 59 #[.agg #[.int .i64 x, .int .i64 y], .agg #[.int .i64 x, .int .i64 y]] w fun e w' => e = .returned (.bool true) ∧ Below w.heap.size w w' := by
  go_enter Try.func59, Try.ntmps59
  go_wp2_with fail
  go_ret
  exact ⟨rfl, (by repeat (first | assumption | exact Below.refl _ _ | (refine below_chain ?_ (by assumption) (by first | omega | (simp <;> omega) | simp)) | (refine Below.alloc ?_ (by first | omega | (simp <;> omega) | simp) _) | (apply below_drewN) | (apply below_drew) | (refine Below.setCell ?_ (by first | omega | (simp <;> omega) | simp) _)))⟩
theorem both (L : List P2) (i j : Int) (hl4 : L.length ≤ 4000000000000000000) : ∃ (x y : Int) (b : Bool), (∀ (w : World) (p : Option Addr), Ints w p (fl L) → Hid (Calls Try.prog 45 #[.slice p L.length L.length, .int .i64 i, .int .i64 j] w fun e w' => e = .returned (.tuple #[.agg #[.int .i64 x, .int .i64 y], .bool b]) ∧ Below w.heap.size w w')) ∧ (∀ (w : World) (p : Option Addr), Ints w p (fl L) → Hid (Calls Try.prog 44 #[.slice p L.length L.length, .int .i64 i, .int .i64 j] w fun e w' => e = .returned (.tuple #[.agg #[.int .i64 x, .int .i64 y], .bool b]) ∧ Below w.heap.size w w')) := by
  cases hs : splOk L i j
  · exact ⟨0, 0, false, fun w p h => Lib.hid (sShare_no (p := p) (w := w) h (Nat.le_refl _) hl4 i j hs), fun w p h => Lib.hid (iParcelShare_no (p := p) (w := w) h (Nat.le_refl _) hl4 i j hs)⟩
  · obtain ⟨I', J', rfl, rfl, hij, hj, hv, h1, h2⟩ := splOk_nat hs
    exact ⟨_, _, _, fun w p h => Lib.hid (sShare_yes (p := p) (w := w) h hv (Nat.le_refl _) I' J' hij hj h1 h2), fun w p h => Lib.hid (iParcelShare_yes (p := p) (w := w) h (Nat.le_refl _) hv I' J' hij hj h1 h2)⟩
set_option maxHeartbeats 2000000 in
theorem walk (w : World) (p : Option Addr) (c : Nat) (L : List P2) (h : Ints w p (fl L)) (hl : L.length ≤ 9223372036854775807) (i : Int) (_ : (Lit.int .i64 i).wf = true) (j : Int) (_ : (Lit.int .i64 j).wf = true) :
    Calls Try.prog 15 #[.slice p L.length c, .int .i64 i, .int .i64 j] w fun e w' => e = .returned (.bool true) ∧ Below w.heap.size w w' := by
  have H := Lib.hid h
  clear h
  by_cases hl2 : L.length ≤ 1048576
  · have hl3 : ¬ (1048576 : Int) < (L.length : Int) := by omega
    have hl4 : L.length ≤ 4000000000000000000 := by omega
    obtain ⟨x, y, b, kS, kI⟩ := both L i j hl4
    go_enter Try.func15, Try.ntmps15
    go_wp2_with ((go_at_call 54; (with_reducible refine (szPts _ _ _ _ hl).mono ?_); rintro e w' ⟨rfl, rfl⟩))
    go_wp2_with ((go_at_call 55; (with_reducible refine (toPts p c L _ ?_ hl2).mono ?_); (focus ((exact H.out.below (by repeat (first | assumption | exact Below.refl _ _ | (refine below_chain ?_ (by assumption) (by first | omega | (simp <;> omega) | simp)) | (refine Below.alloc ?_ (by first | omega | (simp <;> omega) | simp) _) | (apply below_drewN) | (apply below_drew) | (refine Below.setCell ?_ (by first | omega | (simp <;> omega) | simp) _)))); done)); rintro e wa ⟨rfl, oa, hb_wa⟩; have hs_wa := hb_wa.size; (try simp at hs_wa)))
    have OA := Lib.hid oa
    clear oa
    go_wp2_with ((go_at_call 45; (with_reducible refine ((kS _ _ ?_).out).mono ?_); (focus ((exact OA.out.pts); done)); rintro e ws ⟨rfl, hb_ws⟩; have hs_ws := hb_ws.size; (try simp at hs_ws)))
    go_wp2_with ((go_at_call 55; (with_reducible refine (toPts p c L _ ?_ hl2).mono ?_); (focus ((exact H.out.below (by repeat (first | assumption | exact Below.refl _ _ | (refine below_chain ?_ (by assumption) (by first | omega | (simp <;> omega) | simp)) | (refine Below.alloc ?_ (by first | omega | (simp <;> omega) | simp) _) | (apply below_drewN) | (apply below_drew) | (refine Below.setCell ?_ (by first | omega | (simp <;> omega) | simp) _)))); done)); rintro e wb ⟨rfl, ob, hb_wb⟩; have hs_wb := hb_wb.size; (try simp at hs_wb)))
    (try simp only [World.size_alloc] at ob)
    have OB := Lib.hid ob
    clear ob
    have qb0 : wb.cell? ⟨ws.heap.size, 0, none⟩ = some (.int .i64 x) := by (repeat (first | with_reducible assumption | (with_reducible refine cell_below_keep (by with_reducible assumption) ?_) | (with_reducible refine cell_gb_keep (by with_reducible assumption) (by omega) ?_) | (simp [go_sem]; done) | (with_reducible refine cell_alloc_keep _ ?_) | (with_reducible refine cell_drew_keep ?_) | (with_reducible refine cell_drewN_keep _ ?_) | (with_reducible refine cell_set_keep _ (by first | (simp; omega) | omega) ?_)))
    have qb1 : wb.cell? ⟨ws.heap.size, 1, none⟩ = some (.int .i64 y) := by (repeat (first | with_reducible assumption | (with_reducible refine cell_below_keep (by with_reducible assumption) ?_) | (with_reducible refine cell_gb_keep (by with_reducible assumption) (by omega) ?_) | (simp [go_sem]; done) | (with_reducible refine cell_alloc_keep _ ?_) | (with_reducible refine cell_drew_keep ?_) | (with_reducible refine cell_drewN_keep _ ?_) | (with_reducible refine cell_set_keep _ (by first | (simp; omega) | omega) ?_)))
    have hlw : ws.heap.size < wb.heap.size := World.block_lt_of_cell? wb _ qb0
    go_wp2_with ((go_at_call 44; (with_reducible refine ((kI _ _ ?_).out).mono ?_); (focus ((exact OB.out.pts); done)); rintro e wi ⟨rfl, hb_wi⟩; have hs_wi := hb_wi.size; (try simp at hs_wi)); have qi0 := (hb_wi.cell (p := ⟨ws.heap.size, 0, none⟩) hlw).trans qb0; have qi1 := (hb_wi.cell (p := ⟨ws.heap.size, 1, none⟩) hlw).trans qb1; have hlx : ws.heap.size < wi.heap.size := by omega)
    go_wp2_with ((go_at_call 59; (with_reducible refine (eqQuo_same _ _ _).mono ?_); rintro e wq ⟨rfl, hb_wq⟩; have hs_wq := hb_wq.size; (try simp at hs_wq)))
    go_wp2_with ((go_at_call 55; (with_reducible refine (toPts p c L _ ?_ hl2).mono ?_); (focus ((exact H.out.below (by repeat (first | assumption | exact Below.refl _ _ | (refine below_chain ?_ (by assumption) (by first | omega | (simp <;> omega) | simp)) | (refine Below.alloc ?_ (by first | omega | (simp <;> omega) | simp) _) | (apply below_drewN) | (apply below_drew) | (refine Below.setCell ?_ (by first | omega | (simp <;> omega) | simp) _)))); done)); rintro e wc ⟨rfl, oc, hb_wc⟩; have hs_wc := hb_wc.size; (try simp at hs_wc)))
    (try simp only [World.size_alloc] at oc)
    have OC := Lib.hid oc
    clear oc
    go_wp2_with ((go_at_call 56; (with_reducible refine (eqPts _ _ _ _ L _ ?_ ?_ hl4).mono ?_); (focus ((exact (OB.out.below (by repeat (first | assumption | exact Below.refl _ _ | (refine below_chain ?_ (by assumption) (by first | omega | (simp <;> omega) | simp)) | (refine Below.alloc ?_ (by first | omega | (simp <;> omega) | simp) _) | (apply below_drewN) | (apply below_drew) | (refine Below.setCell ?_ (by first | omega | (simp <;> omega) | simp) _)))).pts); done)); (focus ((exact OC.out.pts); done)); rintro e we ⟨rfl, hb_we⟩; have hs_we := hb_we.size; (try simp at hs_we)))
    go_ret
    exact ⟨rfl, (by repeat (first | assumption | exact Below.refl _ _ | (refine below_chain ?_ (by assumption) (by first | omega | (simp <;> omega) | simp)) | (refine Below.alloc ?_ (by first | omega | (simp <;> omega) | simp) _) | (apply below_drewN) | (apply below_drew) | (refine Below.setCell ?_ (by first | omega | (simp <;> omega) | simp) _)))⟩
  · have hl3 : (1048576 : Int) < (L.length : Int) := by omega
    go_enter Try.func15, Try.ntmps15
    go_wp2_with ((go_at_call 54; (with_reducible refine (szPts _ _ _ _ hl).mono ?_); rintro e w' ⟨rfl, rfl⟩))
    go_ret
    exact ⟨rfl, (by repeat (first | assumption | exact Below.refl _ _ | (refine below_chain ?_ (by assumption) (by first | omega | (simp <;> omega) | simp)) | (refine Below.alloc ?_ (by first | omega | (simp <;> omega) | simp) _) | (apply below_drewN) | (apply below_drew) | (refine Below.setCell ?_ (by first | omega | (simp <;> omega) | simp) _)))⟩

set_option maxRecDepth 100000 in
theorem lifted (os : Os) (started : os.Started) (H : Type) (enc : TypeId × Value → H) :
    ReturnsInHanded {} Try.checked os 15 .any (Rows.fnExactParcelShareSpec.pre6 enc Try.prog Try.f15 Rows.fnExactParcelShareRow.domain false) (Rows.fnExactParcelShareSpec.post enc Try.prog Try.f15 false true false false) := by
  refine returnsInHanded_of_change (C := Try.checked) own started (by kernel_rfl) Try.func15
    (ChangeSpec.witness6 (enc := enc) (C := Try.checked) false ⟨#[], #[.slice none 0 0, .int .i64 0, .int .i64 0], []⟩ 8 (by kernel_rfl) (by kernel_rfl) (by kernel_rfl) (by kernel_rfl)) ?_
  intro W base args ds gs before hval0 hW hcnd _
  have hval : ∀ (j : Nat) t v, Try.f15.params[j]? = some t → args[j]? = some v → Value.okWide Try.prog W .any base t v := hval0
  have hW' := hW
  obtain ⟨p, q, hA0, hV, rfl, hfz, hnd⟩ := hW
  have hA : DataW.TrodAll enc Try.prog W 0 (fun _ => true) true Try.f15.params.toList args.toList ds p := hA0
  rw [Try.params15] at hA hval
  obtain ⟨v0, vs0, d0, ds0, p0, q0, hargs, rfl, rfl, h0, r0⟩ := trodAll_cons hA
  obtain ⟨v1, vs1, d1, ds1, p1, q1, rfl, rfl, rfl, h1, r1⟩ := trodAll_cons r0
  obtain ⟨v2, vs2, d2, ds2, p2, q2, rfl, rfl, rfl, h2, r2⟩ := trodAll_cons r1
  obtain ⟨rfl, rfl, rfl⟩ := trodAll_nil r2
  obtain rfl : args = #[v0, v1, v2] := by cases args; simp_all
  obtain ⟨rfl, rfl⟩ := trodVars_none hV
  obtain ⟨a0, len0, cap0, rfl⟩ := okWide_slice Try.underlying55 (hval 0 55 v0 rfl rfl)
  have k0 := h0
  have lt0 : ∀ x ∈ p0, x.block < W.heap.size := by obtain ⟨m, hm⟩ := k0; exact DataW.trod_lt m _ _ _ hm
  obtain ⟨x0, e0, r0', l0⟩ := open_pts h0
  subst e0
  obtain ⟨a1, rfl, rfl, rfl, w1⟩ := open_int Try.underlying3 (hval 1 3 v1 rfl rfl) h1
  obtain ⟨a2, rfl, rfl, rfl, w2⟩ := open_int Try.underlying3 (hval 2 3 v2 rfl rfl) h2
  clear hA0 hval0
  refine (walk W a0 cap0 x0 r0' l0 a1 w1 a2 w2).mono fun e W' ⟨he, bel⟩ => ?_
  subst he
  exact ⟨_, rfl, _, _, _, [], _, [], hW', trodAll_mk1 (shut_bool Try.underlying4 _), (trodAll_cons_mk (Below.trod laidOut (by kernel_rfl) (of_decide_eq_true (by kernel_rfl)) k0 bel lt0) (trodAll_cons_mk (shut_int Try.underlying3 w1) (trodAll_cons_mk (shut_int Try.underlying3 w2) trodAll_mk0))), rfl, bel.frame _, fun h => by cases h⟩

theorem over : Rows.fnExactParcelShareRow.holds Try.pinned (OpenSpec.ofChange Rows.fnExactParcelShareSpec) :=
  OpenClaim.holds_of_wide 15 Try.f15 rfl rfl rfl rfl rfl rfl rfl ⟨rfl, rfl, rfl, rfl, rfl⟩ rfl rfl rfl rfl rfl (by kernel_rfl) Try.func15 (by unfold joinedFacts; rw [seat_enter, seat_lift, seat_make]; kernel_rfl)
    (of_decide_eq_true (by kernel_rfl)) (by unfold Func.isWrapper; first | (rw [if_pos (by decide +kernel)]; kernel_rfl) | (rw [if_neg (by decide +kernel)]; exact ⟨rfl, rfl⟩))
    (fun os started H enc _ => lifted os started H enc)

theorem proved : Rows.FnExactParcelShareSaid :=
  over
end Go.Proofs.Ytegcjdcinebleaa.fnExactParcelShare

