/-
  For every list of points and every point the law FnExactPolyPlace returns true: impl.PolyPlace answers where a point lies as the reference model does, and leaves the list as it was. No condition: every list and every two ints are taken.
-/
import Derived.Test.YthecapioagogbaaOpP
import Derived.Test.YthecapioagogbaaYp
import Derived.Test.YthecapioagogbaaYza
import Derived.Test.YthecapioagogbaaYt
namespace Go.Proofs.Ythecapioagogbaa.fnExactPolyPlace
open Go.ChangeShapes Go.WideShapes Go.ChangeAt Go.RowKit Poly
set_option linter.unusedVariables false

theorem both (L : List P2) (z : P2) (hl4 : L.length ≤ 4000000000000000000) : ∃ (x : Int) (b : Bool), (∀ (w : World) (p : Option Addr), Ints w p (fl L) → Hid (Calls Try.prog 30 #[.slice p L.length L.length, .agg #[.int .i64 z.1, .int .i64 z.2]] w fun e w' => e = .returned (.tuple #[.int .i64 x, .bool b]) ∧ Below w.heap.size w w')) ∧ (∀ (w : World) (p : Option Addr), Ints w p (fl L) → Hid (Calls Try.prog 28 #[.slice p L.length L.length, .agg #[.int .i64 z.1, .int .i64 z.2]] w fun e w' => e = .returned (.tuple #[.int .i64 x, .bool b]) ∧ Below w.heap.size w w')) := by
  cases hv : polyV L
  · exact ⟨0, false, fun w p h => Lib.hid (sPolyPlace_no (p := p) (w := w) h hl4 z hv), fun w p h => Lib.hid (iPolyPlace_no (p := p) (w := w) h (Nat.le_refl _) hl4 z hv)⟩
  · cases hz : pvP z
    · exact ⟨0, false, fun w p h => Lib.hid (sPolyPlace_off (p := p) (w := w) h hl4 z hv hz), fun w p h => Lib.hid (iPolyPlace_off (p := p) (w := w) h (Nat.le_refl _) z hv hz)⟩
    · exact ⟨_, true, fun w p h => Lib.hid (sPolyPlace_yes (p := p) (w := w) h hl4 z hv hz), fun w p h => Lib.hid (iPolyPlace_yes (p := p) (w := w) h (Nat.le_refl _) z hv hz)⟩
set_option maxHeartbeats 4000000 in
theorem walk (w : World) (p : Option Addr) (c : Nat) (L : List P2) (h : Ints w p (fl L)) (hl : L.length ≤ 9223372036854775807) (zx zy : Int) (wz : (Lit.int .i64 zx).wf = true) (wy : (Lit.int .i64 zy).wf = true) :
    Calls Try.prog 12 #[.slice p L.length c, .agg #[.int .i64 zx, .int .i64 zy]] w fun e w' => e = .returned (.bool true) ∧ Below w.heap.size w w' := by
  have H := Lib.hid h
  clear h wz wy
  by_cases hl2 : L.length ≤ 1048576
  · have hl3 : ¬ (1048576 : Int) < (L.length : Int) := by omega
    have hl4 : L.length ≤ 4000000000000000000 := by omega
    obtain ⟨x, b, kS, kI⟩ := both L (zx, zy) hl4
    dsimp only at kS kI
    go_enter Try.func12, Try.ntmps12
    go_wp2_with ((go_at_call 34; (with_reducible refine (szPts _ _ _ _ hl).mono ?_); rintro e w' ⟨rfl, rfl⟩))
    go_region_held3 (fun W => W.cell? ⟨w.heap.size, 0, none⟩ = some (.int .i64 zx) ∧ W.cell? ⟨w.heap.size, 1, none⟩ = some (.int .i64 zy)) (((try dsimp only); (try go_split_ands); refine ⟨?_, ?_⟩ <;> (first | ((repeat (first | with_reducible assumption | (with_reducible refine cell_below_keep (by with_reducible assumption) ?_) | (simp [go_sem]; done) | (with_reducible refine cell_alloc_keep _ ?_) | (with_reducible refine cell_drew_keep ?_) | (with_reducible refine cell_drewN_keep _ ?_) | (with_reducible refine cell_set_keep _ (by first | (simp; omega) | omega) ?_))); done) | (simp [*, go_sem]; done)))) (first | ((go_at_call 35; (with_reducible refine (toPts p c L _ ?_ hl2).mono ?_); (focus ((exact H.out.below (by repeat (first | assumption | exact Below.refl _ _ | (refine below_chain ?_ (by assumption) (by first | omega | (simp <;> omega) | simp)) | (refine Below.alloc ?_ (by first | omega | (simp <;> omega) | simp) _) | (apply below_drewN) | (apply below_drew) | (refine Below.setCell ?_ (by first | omega | (simp <;> omega) | simp) _)))); done)); rintro e wa ⟨rfl, oa, hb_wa⟩; have hs_wa := hb_wa.size; (try simp at hs_wa)); obtain ⟨hc_wa, hf_wa⟩ := bcell hb_wa; (have u_wa : w.heap.size < wa.heap.size := by omega); have OA := Lib.hid (show Own wa (w.heap.size + 1) 31 2 L.length L.length (fl L) by simpa using oa); clear oa) | ((go_at_call 38; (with_reducible refine (toPoint_any zx zy _).mono ?_); rintro e wt ⟨rfl, hb_wt⟩; have hs_wt := hb_wt.size; (try simp at hs_wt)); obtain ⟨hc_wt, hf_wt⟩ := bcell hb_wt; (have u_wt : w.heap.size < wt.heap.size := by omega)) | ((go_at_call 30; (with_reducible refine ((kS _ _ ?_).out).mono ?_); (focus ((exact (OA.out.below (by repeat (first | assumption | exact Below.refl _ _ | (refine below_chain ?_ (by assumption) (by first | omega | (simp <;> omega) | simp)) | (refine Below.alloc ?_ (by first | omega | (simp <;> omega) | simp) _) | (apply below_drewN) | (apply below_drew) | (refine Below.setCell ?_ (by first | omega | (simp <;> omega) | simp) _)))).pts); done)); rintro e ws ⟨rfl, hb_ws⟩; have hs_ws := hb_ws.size; (try simp at hs_ws)); obtain ⟨hc_ws, hf_ws⟩ := bcell hb_ws; (have u_ws : w.heap.size < ws.heap.size := by omega)))
    all_goals
      have hbs2 : Below w.heap.size w ws := (by repeat (first | assumption | exact Below.refl _ _ | (refine below_chain ?_ (by assumption) (by first | omega | (simp <;> omega) | simp)) | (refine Below.alloc ?_ (by first | omega | (simp <;> omega) | simp) _) | (apply below_drewN) | (apply below_drew) | (refine Below.setCell ?_ (by first | omega | (simp <;> omega) | simp) _)))
      have y0 : ws.cell? ⟨w.heap.size, 0, none⟩ = some (.int .i64 zx) := by simp [*, go_sem]
      have y1 : ws.cell? ⟨w.heap.size, 1, none⟩ = some (.int .i64 zy) := by simp [*, go_sem]
      have u0 : w.heap.size < ws.heap.size := by omega
      go_wp2_with (first | ((go_at_call 35; (with_reducible refine (toPts p c L _ ?_ hl2).mono ?_); (focus ((exact H.out.below hbs2); done)); rintro e wb ⟨rfl, ob, hb_wb⟩; have hs_wb := hb_wb.size; (try simp at hs_wb)); obtain ⟨hc_wb, hf_wb⟩ := bcell hb_wb; (have u_wb : w.heap.size < wb.heap.size := by omega); have OB := Lib.hid ob; clear ob) | ((go_at_call 38; (with_reducible refine (toPoint_any zx zy _).mono ?_); rintro e wv ⟨rfl, hb_wv⟩; have hs_wv := hb_wv.size; (try simp at hs_wv)); obtain ⟨hc_wv, hf_wv⟩ := bcell hb_wv; (have u_wv : w.heap.size < wv.heap.size := by omega)) | ((go_at_call 28; (with_reducible refine ((kI _ _ ?_).out).mono ?_); (focus ((exact (OB.out.below hb_wv).pts); done)); rintro e wi ⟨rfl, hb_wi⟩; have hs_wi := hb_wi.size; (try simp at hs_wi))))
      have hbi : Below ws.heap.size ws wi := (by repeat (first | assumption | exact Below.refl _ _ | (refine below_chain ?_ (by assumption) (by first | omega | (simp <;> omega) | simp)) | (refine Below.alloc ?_ (by first | omega | (simp <;> omega) | simp) _) | (apply below_drewN) | (apply below_drew) | (refine Below.setCell ?_ (by first | omega | (simp <;> omega) | simp) _)))
      have hbi2 : Below w.heap.size w wi := hbs2.trans (hbi.mono hbs2.size)
      go_wp2_with ((go_at_call 35; (with_reducible refine (toPts p c L _ ?_ hl2).mono ?_); (focus ((exact H.out.below hbi2); done)); rintro e wc ⟨rfl, oc, hb_wc⟩; have hs_wc := hb_wc.size; (try simp at hs_wc)))
      have OC := Lib.hid oc
      clear oc
      go_wp2_with ((go_at_call 36; (with_reducible refine (eqPts _ _ _ _ L _ ?_ ?_ hl4).mono ?_); (focus ((exact (OB.out.below (hb_wv.trans ((hb_wi.trans (hb_wc.mono (by omega))).mono (by omega)))).pts); done)); (focus ((exact OC.out.pts); done)); rintro e we ⟨rfl, hb_we⟩; have hs_we := hb_we.size; (try simp at hs_we)))
      go_ret
      exact ⟨rfl, hbi2.trans ((hb_wc.trans (hb_we.mono (by omega))).mono (by omega))⟩
  · have hl3 : (1048576 : Int) < (L.length : Int) := by omega
    go_enter Try.func12, Try.ntmps12
    go_wp2_with ((go_at_call 34; (with_reducible refine (szPts _ _ _ _ hl).mono ?_); rintro e w' ⟨rfl, rfl⟩))
    go_ret
    exact ⟨rfl, (by repeat (first | assumption | exact Below.refl _ _ | (refine below_chain ?_ (by assumption) (by first | omega | (simp <;> omega) | simp)) | (refine Below.alloc ?_ (by first | omega | (simp <;> omega) | simp) _) | (apply below_drewN) | (apply below_drew) | (refine Below.setCell ?_ (by first | omega | (simp <;> omega) | simp) _)))⟩

set_option maxRecDepth 100000 in
theorem lifted (os : Os) (started : os.Started) (H : Type) (enc : TypeId × Value → H) :
    ReturnsInHanded {} Try.checked os 12 .any (Rows.fnExactPolyPlaceSpec.pre6 enc Try.prog Try.f12 Rows.fnExactPolyPlaceRow.domain false) (Rows.fnExactPolyPlaceSpec.post enc Try.prog Try.f12 false true false false) := by
  refine returnsInHanded_of_change (C := Try.checked) own started (by kernel_rfl) Try.func12
    (ChangeSpec.witness6 (enc := enc) (C := Try.checked) false ⟨#[], #[.slice none 0 0, .agg #[.int .i64 0, .int .i64 0]], []⟩ 8 (by kernel_rfl) (by kernel_rfl) (by kernel_rfl) (by kernel_rfl)) ?_
  intro W base args ds gs before hval0 hW hcnd _
  have hval : ∀ (j : Nat) t v, Try.f12.params[j]? = some t → args[j]? = some v → Value.okWide Try.prog W .any base t v := hval0
  have hW' := hW
  obtain ⟨p, q, hA0, hV, rfl, hfz, hnd⟩ := hW
  have hA : DataW.TrodAll enc Try.prog W 0 (fun _ => true) true Try.f12.params.toList args.toList ds p := hA0
  rw [Try.params12] at hA hval
  obtain ⟨v0, vs0, d0, ds0, p0, q0, hargs, rfl, rfl, h0, r0⟩ := trodAll_cons hA
  obtain ⟨v1, vs1, d1, ds1, p1, q1, rfl, rfl, rfl, h1, r1⟩ := trodAll_cons r0
  obtain ⟨rfl, rfl, rfl⟩ := trodAll_nil r1
  obtain rfl : args = #[v0, v1] := by cases args; simp_all
  obtain ⟨rfl, rfl⟩ := trodVars_none hV
  obtain ⟨a0, len0, cap0, rfl⟩ := okWide_slice Try.underlying40 (hval 0 40 v0 rfl rfl)
  have k0 := h0
  have lt0 : ∀ x ∈ p0, x.block < W.heap.size := by obtain ⟨m, hm⟩ := k0; exact DataW.trod_lt m _ _ _ hm
  obtain ⟨x0, e0, r0', l0⟩ := open_pts h0
  subst e0
  obtain ⟨a1, b1, rfl, rfl, rfl, w1, x1, s1⟩ := open_two Try.underlying45 (by kernel_rfl) (by kernel_rfl) Try.underlying3 rfl rfl (hval 1 45 v1 rfl rfl) h1
  clear hA0 hval0
  refine (walk W a0 cap0 x0 r0' l0 a1 b1 w1 x1).mono fun e W' ⟨he, bel⟩ => ?_
  subst he
  exact ⟨_, rfl, _, _, _, [], _, [], hW', trodAll_mk1 (shut_bool Try.underlying4 _), (trodAll_cons_mk (Below.trod laidOut (by kernel_rfl) (of_decide_eq_true (by kernel_rfl)) k0 bel lt0) (trodAll_cons_mk (s1 _ _) trodAll_mk0)), rfl, bel.frame _, fun h => by cases h⟩

theorem over : Rows.fnExactPolyPlaceRow.holds Try.pinned (OpenSpec.ofChange Rows.fnExactPolyPlaceSpec) :=
  OpenClaim.holds_of_wide 12 Try.f12 rfl rfl rfl rfl rfl rfl rfl ⟨rfl, rfl, rfl, rfl, rfl⟩ rfl rfl rfl rfl rfl (by kernel_rfl) Try.func12 (by unfold joinedFacts; rw [seat_enter, seat_lift, seat_make]; kernel_rfl)
    (of_decide_eq_true (by kernel_rfl)) (by unfold Func.isWrapper; first | (rw [if_pos (by decide +kernel)]; kernel_rfl) | (rw [if_neg (by decide +kernel)]; exact ⟨rfl, rfl⟩))
    (fun os started H enc _ => lifted os started H enc)

theorem proved : Rows.FnExactPolyPlaceSaid :=
  over
end Go.Proofs.Ythecapioagogbaa.fnExactPolyPlace

