/-
  For every point and every list of points the law FnExactTravelEnd returns true: impl.TravelEnd answers where a traverse leads as the reference model does, in every field, and leaves the list as it was. No condition: every two ints and every list are taken.
-/
import Derived.Test.YtgncjpakclbegaaOpP
import Derived.Test.YtgncjpakclbegaaHe
import Derived.Test.YtgncjpakclbegaaHh
namespace Go.Proofs.Ytgncjpakclbegaa.fnExactTravelEnd
open Go.ChangeShapes Go.WideShapes Go.ChangeAt Go.RowKit Poly
set_option linter.unusedVariables false

theorem both (zx zy : Int) (L : List P2) (hl4 : L.length ≤ 4000000000000000000) : ∃ (x y : Int) (b : Bool), (∀ (w : World) (p : Option Addr), Ints w p (Poly.fl L) → Hid (Calls Try.prog 34 #[.agg #[.int .i64 zx, .int .i64 zy], .slice p L.length L.length] w fun e w' => e = .returned (.tuple #[.agg #[.int .i64 x, .int .i64 y], .bool b]) ∧ Below w.heap.size w w')) ∧ (∀ (w : World) (p : Option Addr), Ints w p (Poly.fl L) → Hid (Calls Try.prog 33 #[.agg #[.int .i64 zx, .int .i64 zy], .slice p L.length L.length] w fun e w' => e = .returned (.tuple #[.agg #[.int .i64 x, .int .i64 y], .bool b]) ∧ Below w.heap.size w w')) := by
  cases hv : goT (zx, zy) L
  · exact ⟨0, 0, false, fun w p h => Lib.hid (sTravelEnd_no (p := p) (w := w) h rfl hl4 hv), fun w p h => Lib.hid (iTravelEnd_no (p := p) (w := w) h rfl hv)⟩
  · exact ⟨(endT (zx, zy) L).1, (endT (zx, zy) L).2, true, fun w p h => Lib.hid (sTravelEnd_yes (p := p) (w := w) h rfl hv rfl), fun w p h => Lib.hid (iTravelEnd_yes (p := p) (w := w) h rfl hv rfl)⟩
set_option maxHeartbeats 4000000 in
theorem walk (w : World) (zx zy : Int) (wz : (Lit.int .i64 zx).wf = true) (wy : (Lit.int .i64 zy).wf = true) (p : Option Addr) (c : Nat) (L : List P2) (h : Ints w p (Poly.fl L)) (hl : L.length ≤ 9223372036854775807) :
    Calls Try.prog 13 #[.agg #[.int .i64 zx, .int .i64 zy], .slice p L.length c] w fun e w' => e = .returned (.bool true) ∧ Below w.heap.size w w' := by
  have H := Lib.hid h
  clear h wz wy
  by_cases hl2 : L.length ≤ 1048576
  · have hl3 : ¬ (1048576 : Int) < (L.length : Int) := by omega
    have hl4 : L.length ≤ 4000000000000000000 := by omega
    obtain ⟨x, y, b, kS, kI⟩ := both zx zy L hl4
    go_enter Try.func13, Try.ntmps13
    go_wp2_with ((go_at_call 48; (with_reducible refine (szPts _ _ _ _ hl).mono ?_); rintro e w' ⟨rfl, rfl⟩))
    go_upto_region 6 with (first | ((go_at_call 53; (with_reducible refine (toPoint_any zx zy _).mono ?_); rintro e wt ⟨rfl, hb_wt⟩; have hs_wt := hb_wt.size; (try simp at hs_wt)); obtain ⟨hc_wt, hf_wt⟩ := bcell hb_wt; (have u_wt : w.heap.size < wt.heap.size := by omega); have z0 : wt.cell? ⟨w.heap.size, 0, none⟩ = some (.int .i64 zx) := (by rw [hc_wt _ _ (by simp)]; simp [go_sem]); have z1 : wt.cell? ⟨w.heap.size, 1, none⟩ = some (.int .i64 zy) := (by rw [hc_wt _ _ (by simp)]; simp [go_sem])) | ((go_at_call 50; (with_reducible refine (toPts p c L _ ?_ hl2).mono ?_); (focus ((exact H.out.below (by repeat (first | assumption | exact Below.refl _ _ | (refine below_chain ?_ (by assumption) (by first | omega | (simp <;> omega) | simp)) | (refine Below.alloc ?_ (by first | omega | (simp <;> omega) | simp) _) | (apply below_drewN) | (apply below_drew) | (refine Below.setCell ?_ (by first | omega | (simp <;> omega) | simp) _)))); done)); rintro e wa ⟨rfl, oa, hb_wa⟩; have hs_wa := hb_wa.size; (try simp at hs_wa)); have z0 := cell_below_keep hb_wa z0; have z1 := cell_below_keep hb_wa z1) | ((go_at_call 34; (with_reducible refine ((kS _ _ ?_).out).mono ?_); (focus ((exact oa.pts); done)); rintro e ws ⟨rfl, hb_ws⟩; have hs_ws := hb_ws.size; (try simp at hs_ws)); have z0 := cell_below_keep hb_ws z0; have z1 := cell_below_keep hb_ws z1; (have u_ws : w.heap.size < ws.heap.size := by omega)))
    have hbs : Below w.heap.size w ws := (by repeat (first | assumption | exact Below.refl _ _ | (refine below_chain ?_ (by assumption) (by first | omega | (simp <;> omega) | simp)) | (refine Below.alloc ?_ (by first | omega | (simp <;> omega) | simp) _) | (apply below_drewN) | (apply below_drew) | (refine Below.setCell ?_ (by first | omega | (simp <;> omega) | simp) _)))
    have HS := Lib.hid hbs
    clear hb_wt hb_wa hb_ws hc_wt hf_wt oa hbs
    go_upto_region 7 with ((go_at_call 50; (with_reducible refine (toPts p c L _ ?_ hl2).mono ?_); (focus ((exact H.out.below (HS.out.alloc (by omega) _)); done)); rintro e wb ⟨rfl, ob, hb_wb⟩; have hs_wb := hb_wb.size; (try simp at hs_wb)); (have u_wb : w.heap.size < wb.heap.size := by omega); obtain ⟨hc_wb, hf_wb⟩ := bcell hb_wb; have k0 : wb.cell? ⟨ws.heap.size, 0, none⟩ = some (.int .i64 x) := (by rw [hc_wb _ _ (by simp)]; simp [go_sem]); have k1 : wb.cell? ⟨ws.heap.size, 1, none⟩ = some (.int .i64 y) := (by rw [hc_wb _ _ (by simp)]; simp [go_sem]); have l0 : ws.heap.size < wb.heap.size := (by omega); have z0 := cell_below_keep hb_wb (cell_alloc_keep _ z0); have z1 := cell_below_keep hb_wb (cell_alloc_keep _ z1))
    have OB := Lib.hid (show Own wb (ws.heap.size + 1) 31 2 L.length L.length (Poly.fl L) by simpa using ob)
    have hbb : Below w.heap.size w wb := ((HS.out.alloc (by omega) (.cells #[.int .i64 x, .int .i64 y] 31)).trans (hb_wb.mono (by simp; omega)))
    have HB := Lib.hid hbb
    clear ob hb_wb hc_wb hf_wb hbb HS
    go_upto_region 8 with (first | ((go_at_call 53; (with_reducible refine (toPoint_any zx zy _).mono ?_); rintro e wv ⟨rfl, hb_wv⟩; have hs_wv := hb_wv.size; (try simp at hs_wv)); have k0 := cell_below_keep hb_wv k0; have k1 := cell_below_keep hb_wv k1) | ((go_at_call 33; (with_reducible refine ((kI _ _ ?_).out).mono ?_); (focus ((exact (OB.out.below hb_wv).pts); done)); rintro e wi ⟨rfl, hb_wi⟩; have hs_wi := hb_wi.size; (try simp at hs_wi)); have k0 := cell_below_keep hb_wi k0; have k1 := cell_below_keep hb_wi k1; have l0 : ws.heap.size < wi.heap.size := (by omega)))
    have OI := Lib.hid ((OB.out.below hb_wv).below hb_wi)
    have hbi : Below w.heap.size w wi := HB.out.trans ((hb_wv.trans (hb_wi.mono hs_wv)).mono (by omega))
    have HI := Lib.hid hbi
    have hsi := hbi.size
    clear hb_wv hb_wi OB HB hbi
    go_wp2_with (first | (go_at_call 56; (with_reducible refine (eqPoint_any _ _ _).mono ?_); rintro e wq ⟨rfl, hb_wq⟩; have hs_wq := hb_wq.size; (try simp at hs_wq)) | ((go_at_call 50; (with_reducible refine (toPts p c L _ ?_ hl2).mono ?_); (focus ((exact (H.out.below (HI.out.alloc hsi _)).below hb_wq); done)); rintro e wc ⟨rfl, oc, hb_wc⟩; have hs_wc := hb_wc.size; (try simp at hs_wc))) | ((go_at_call 52; (with_reducible refine (eqPts _ _ _ _ L _ ?_ ?_ hl4).mono ?_); (focus ((exact (((OI.out.alloc _).below hb_wq).below hb_wc).pts); done)); (focus ((exact oc.pts); done)); rintro e we ⟨rfl, hb_we⟩; have hs_we := hb_we.size; (try simp at hs_we))))
    have hbi := HI.out
    go_ret
    exact ⟨rfl, (by repeat (first | assumption | exact Below.refl _ _ | (refine below_chain ?_ (by assumption) (by first | omega | (simp <;> omega) | simp)) | (refine Below.alloc ?_ (by first | omega | (simp <;> omega) | simp) _) | (apply below_drewN) | (apply below_drew) | (refine Below.setCell ?_ (by first | omega | (simp <;> omega) | simp) _)))⟩
  · have hl3 : (1048576 : Int) < (L.length : Int) := by omega
    go_enter Try.func13, Try.ntmps13
    go_wp2_with ((go_at_call 48; (with_reducible refine (szPts _ _ _ _ hl).mono ?_); rintro e w' ⟨rfl, rfl⟩))
    go_ret
    exact ⟨rfl, (by repeat (first | assumption | exact Below.refl _ _ | (refine below_chain ?_ (by assumption) (by first | omega | (simp <;> omega) | simp)) | (refine Below.alloc ?_ (by first | omega | (simp <;> omega) | simp) _) | (apply below_drewN) | (apply below_drew) | (refine Below.setCell ?_ (by first | omega | (simp <;> omega) | simp) _)))⟩

set_option maxRecDepth 100000 in
theorem lifted (os : Os) (started : os.Started) (H : Type) (enc : TypeId × Value → H) :
    ReturnsInHanded {} Try.checked os 13 .any (Rows.fnExactTravelEndSpec.pre6 enc Try.prog Try.f13 Rows.fnExactTravelEndRow.domain false) (Rows.fnExactTravelEndSpec.post enc Try.prog Try.f13 false true false false) := by
  refine returnsInHanded_of_change (C := Try.checked) own started (by kernel_rfl) Try.func13
    (ChangeSpec.witness6 (enc := enc) (C := Try.checked) false ⟨#[], #[.agg #[.int .i64 0, .int .i64 0], .slice none 0 0], []⟩ 8 (by kernel_rfl) (by kernel_rfl) (by kernel_rfl) (by kernel_rfl)) ?_
  intro W base args ds gs before hval0 hW hcnd _
  have hval : ∀ (j : Nat) t v, Try.f13.params[j]? = some t → args[j]? = some v → Value.okWide Try.prog W .any base t v := hval0
  have hW' := hW
  obtain ⟨p, q, hA0, hV, rfl, hfz, hnd⟩ := hW
  have hA : DataW.TrodAll enc Try.prog W 0 (fun _ => true) true Try.f13.params.toList args.toList ds p := hA0
  rw [Try.params13] at hA hval
  obtain ⟨v0, vs0, d0, ds0, p0, q0, hargs, rfl, rfl, h0, r0⟩ := trodAll_cons hA
  obtain ⟨v1, vs1, d1, ds1, p1, q1, rfl, rfl, rfl, h1, r1⟩ := trodAll_cons r0
  obtain ⟨rfl, rfl, rfl⟩ := trodAll_nil r1
  obtain rfl : args = #[v0, v1] := by cases args; simp_all
  obtain ⟨rfl, rfl⟩ := trodVars_none hV
  obtain ⟨a0, b0, rfl, rfl, rfl, w0, x0, s0⟩ := open_two Try.underlying52 (by kernel_rfl) (by kernel_rfl) Try.underlying3 rfl rfl (hval 0 52 v0 rfl rfl) h0
  obtain ⟨a1, len1, cap1, rfl⟩ := okWide_slice Try.underlying48 (hval 1 48 v1 rfl rfl)
  have k1 := h1
  have lt1 : ∀ x ∈ p1, x.block < W.heap.size := by obtain ⟨m, hm⟩ := k1; exact DataW.trod_lt m _ _ _ hm
  obtain ⟨x1, e1, r1', l1⟩ := open_pts h1
  subst e1
  clear hA0 hval0
  refine (walk W a0 b0 w0 x0 a1 cap1 x1 r1' l1).mono fun e W' ⟨he, bel⟩ => ?_
  subst he
  exact ⟨_, rfl, _, _, _, [], _, [], hW', trodAll_mk1 (shut_bool Try.underlying4 _), (trodAll_cons_mk (s0 _ _) (trodAll_cons_mk (Below.trod laidOut (by kernel_rfl) (of_decide_eq_true (by kernel_rfl)) k1 bel lt1) trodAll_mk0)), rfl, bel.frame _, fun h => by cases h⟩

theorem over : Rows.fnExactTravelEndRow.holds Try.pinned (OpenSpec.ofChange Rows.fnExactTravelEndSpec) :=
  OpenClaim.holds_of_wide 13 Try.f13 rfl rfl rfl rfl rfl rfl rfl ⟨rfl, rfl, rfl, rfl, rfl⟩ rfl rfl rfl rfl rfl (by kernel_rfl) Try.func13 (by unfold joinedFacts; rw [seat_enter, seat_lift, seat_make]; kernel_rfl)
    (of_decide_eq_true (by kernel_rfl)) (by unfold Func.isWrapper; first | (rw [if_pos (by decide +kernel)]; kernel_rfl) | (rw [if_neg (by decide +kernel)]; exact ⟨rfl, rfl⟩))
    (fun os started H enc _ => lifted os started H enc)

theorem proved : Rows.FnExactTravelEndSaid :=
  over
end Go.Proofs.Ytgncjpakclbegaa.fnExactTravelEnd

