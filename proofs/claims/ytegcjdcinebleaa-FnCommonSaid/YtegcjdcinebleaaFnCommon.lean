/-
  For every code the law FnCommon returns true: impl.ParcelCommon answers as the reference model does; two parcels have as many sides in common the other way round, at most as many as each has corners, and a parcel has none in common with itself. No condition: every list of bytes is taken.
-/
import Derived.Test.YtegcjdcinebleaaPkd
import Derived.Test.YtegcjdcinebleaaPkw
import Derived.Test.YtegcjdcinebleaaPkz
import Derived.Test.YtegcjdcinebleaaCode
namespace Go.Proofs.Ytegcjdcinebleaa.fnCommon
open Go.ChangeShapes Go.WideShapes Go.ChangeAt Go.RowKit Poly
set_option linter.unusedVariables false

theorem common_is (w : World) (p q : Option Addr) (c d : Nat) (L M : List P2) (A : Int) (h : Ints w p (fl L)) (h' : Ints w q (fl M)) (hc : L.length ≤ c) (hd : M.length ≤ d) (hv : parV L = true) (hv' : parV M = true) (hA : commonL L M = A) :
    Calls Try.prog 42 #[.slice p L.length c, .slice q M.length d] w fun e w' => e = .returned (.int .i64 A) ∧ Below w.heap.size w w' := by
  subst hA; exact iParcelCommon_yes h h' hc hd hv hv'
set_option maxHeartbeats 8000000 in
theorem walk (len cap : Nat) (p : Option Addr) (w : World) (hl : len ≤ 1048576) (h : Hid (Code' w (.slice p len cap))) :
    Calls Try.prog 11 #[.slice p len cap] w fun e w' => e = .returned (.bool true) ∧ Below w.heap.size w w' := by
  have hl' : ¬ (1048576 : Int) < (len : Int) := by omega
  go_enter Try.func11, Try.ntmps11
  go_upto_region 4 with (go_at_call 52; (with_reducible refine (drawParcelCommon_is _ _ h).mono ?_); rintro e wd ⟨L, q, c, M, r, d, rfl, ⟨hc, hl12, hd, hm12⟩, hI, hJ, hb_wd⟩; have hs_wd := hb_wd.size)
  clear h
  have H := Lib.hid (And.intro hI hJ)
  cases hv : (parV L && parV M)
  · have c1 := fun w h h' => Lib.hid (iParcelCommon_no (p := q) (q := r) (c := c) (d := d) (w := w) (L := L) (M := M) h h' hc hd (by omega) (by omega) hv)
    have c2 := fun w h h' => Lib.hid (sParcelCommon_no (p := q) (q := r) (c := c) (d := d) (w := w) (L := L) (M := M) h h' (by omega) (by omega) hv)
    clear hI hJ hv
    go_wp2_with (first | (go_at_call 42; (with_reducible refine ((c1 _ ?_ ?_).out).mono ?_); (focus ((exact H.out.1); done)); (focus ((exact H.out.2); done)); rintro e wi ⟨rfl, hb_wi⟩; have hs_wi := hb_wi.size; (try simp at hs_wi)) | (go_at_call 53; (with_reducible refine ((c2 _ ?_ ?_).out).mono ?_); (focus ((exact H.out.1.below hb_wi); done)); (focus ((exact H.out.2.below hb_wi); done)); rintro e ws ⟨rfl, hb_ws⟩; have hs_ws := hb_ws.size; (try simp at hs_ws)))
    go_ret
    exact ⟨rfl, (by repeat (first | assumption | exact Below.refl _ _ | (refine below_chain ?_ (by assumption) (by first | omega | (simp <;> omega) | simp)) | (refine Below.alloc ?_ (by first | omega | (simp <;> omega) | simp) _) | (apply below_drewN) | (apply below_drew) | (refine Below.setCell ?_ (by first | omega | (simp <;> omega) | simp) _)))⟩
  · rw [Bool.and_eq_true] at hv
    obtain ⟨A, hA⟩ : ∃ A, commonL L M = A := ⟨_, rfl⟩
    have hs1 := (polyV_parts (parV_poly hv.1)).2
    have hs2 := (polyV_parts (parV_poly hv.2)).2
    have b1 := common_le L hs2
    have b2 := common_le2 (b := M) hs1
    have hB : commonL M L = A := by rw [common_comm]; exact hA
    have hz := common_self (parV_poly hv.1)
    rw [hA] at b1 b2
    have c1 := fun w h h' => Lib.hid (common_is w q r c d L M A h h' hc hd hv.1 hv.2 hA)
    have c2 := fun w h h' => Lib.hid (sParcelCommon_yes (p := q) (q := r) (c := c) (d := d) (w := w) (L := L) (M := M) h h' hv.1 hv.2)
    simp only [hA] at c2
    have c3 := fun w h h' => Lib.hid (common_is w r q d c M L A h h' hd hc hv.2 hv.1 hB)
    have c4 := fun w h h' => Lib.hid (common_is w q q c c L L 0 h h' hc hc hv.1 hv.1 hz)
    clear hI hJ hv hA hB hz hs1 hs2
    have hA0 : ¬ A < 0 := by omega
    go_wp2_with (first | (go_at_call 42; (with_reducible refine ((c1 _ ?_ ?_).out).mono ?_); (focus ((exact H.out.1); done)); (focus ((exact H.out.2); done)); rintro e wi ⟨rfl, hb_wi⟩; have hs_wi := hb_wi.size; (try simp at hs_wi)) | (go_at_call 53; (with_reducible refine ((c2 _ ?_ ?_).out).mono ?_); (focus ((exact H.out.1.below hb_wi); done)); (focus ((exact H.out.2.below hb_wi); done)); rintro e ws ⟨rfl, hb_ws⟩; have hs_ws := hb_ws.size; (try simp at hs_ws)) | (go_at_call 42; (with_reducible refine ((c3 _ ?_ ?_).out).mono ?_); (focus ((exact (H.out.2.below hb_wi).below hb_ws); done)); (focus ((exact (H.out.1.below hb_wi).below hb_ws); done)); rintro e wj ⟨rfl, hb_wj⟩; have hs_wj := hb_wj.size; (try simp at hs_wj)) | (go_at_call 42; (with_reducible refine ((c4 _ ?_ ?_).out).mono ?_); (focus ((exact ((H.out.1.below hb_wi).below hb_ws).below hb_wj); done)); (focus ((exact ((H.out.1.below hb_wi).below hb_ws).below hb_wj); done)); rintro e wk ⟨rfl, hb_wk⟩; have hs_wk := hb_wk.size; (try simp at hs_wk)))
    go_ret
    exact ⟨rfl, (by repeat (first | assumption | exact Below.refl _ _ | (refine below_chain ?_ (by assumption) (by first | omega | (simp <;> omega) | simp)) | (refine Below.alloc ?_ (by first | omega | (simp <;> omega) | simp) _) | (apply below_drewN) | (apply below_drew) | (refine Below.setCell ?_ (by first | omega | (simp <;> omega) | simp) _)))⟩

set_option maxRecDepth 100000 in
theorem walk_long (len cap : Nat) (p : Option Addr) (w : World) (hl : 1048576 < len) :
    Calls Try.prog 11 #[.slice p len cap] w fun e w' => e = .returned (.bool true) ∧ Below w.heap.size w w' := by
  have hl' : (1048576 : Int) < (len : Int) := by omega
  go_enter Try.func11, Try.ntmps11
  go_wp2
  go_ret
  exact ⟨rfl, Below.refl _ _⟩

set_option maxRecDepth 100000 in
theorem lifted (os : Os) (started : os.Started) (H : Type) (enc : TypeId × Value → H) :
    ReturnsInHanded {} Try.checked os 11 .any (Rows.fnCommonSpec.pre6 enc Try.prog Try.f11 Rows.fnCommonRow.domain false) (Rows.fnCommonSpec.post enc Try.prog Try.f11 false true false false) := by
  refine returnsInHanded_of_change (C := Try.checked) own started (by kernel_rfl) Try.func11
    (ChangeSpec.witness6 (enc := enc) (C := Try.checked) false ⟨#[], #[.slice none 0 0], []⟩ 8 (by kernel_rfl) (by kernel_rfl) (by kernel_rfl) (by kernel_rfl)) ?_
  intro W base args ds gs before hval0 hW hcnd _
  have hval : ∀ (j : Nat) t v, Try.f11.params[j]? = some t → args[j]? = some v → Value.okWide Try.prog W .any base t v := hval0
  have hW' := hW
  obtain ⟨p, q, hA0, hV, rfl, hfz, hnd⟩ := hW
  have hA : DataW.TrodAll enc Try.prog W 0 (fun _ => true) true Try.f11.params.toList args.toList ds p := hA0
  rw [Try.params11] at hA hval
  obtain ⟨v0, vs0, d0, ds0, p0, q0, hargs, rfl, rfl, h0, r0⟩ := trodAll_cons hA
  obtain ⟨rfl, rfl, rfl⟩ := trodAll_nil r0
  obtain rfl : args = #[v0] := by cases args; simp_all
  obtain ⟨rfl, rfl⟩ := trodVars_none hV
  obtain ⟨a0, len0, cap0, rfl⟩ := okWide_slice Try.underlying22 (hval 0 22 v0 rfl rfl)
  have k0 := h0
  have lt0 : ∀ x ∈ p0, x.block < W.heap.size := by obtain ⟨m, hm⟩ := k0; exact DataW.trod_lt m _ _ _ hm
  obtain ⟨z0, w0⟩ : ∃ zs, IsRow .u8 W a0 len0 cap0 zs := by
    obtain ⟨fuel, hf⟩ := h0
    rcases open_ints Try.underlying22 Try.underlying5 (by kernel_rfl) hf with ⟨hcs, _⟩ | ⟨x, l, c, zs, hcs, _, hl, hm, hz, _, hcell, hwz⟩
    · simp [Value.cells] at hcs
      obtain ⟨rfl, rfl, rfl⟩ := hcs
      exact ⟨[], .inl ⟨rfl, rfl, rfl, rfl⟩⟩
    · simp [Value.cells] at hcs
      obtain ⟨rfl, rfl, rfl⟩ := hcs
      exact ⟨zs, .inr ⟨_, rfl, hl, hm, by simpa using hz, hcell, hwz⟩⟩
  clear hA0 hval0
  have hw : Calls Try.prog 11 #[.slice a0 len0 cap0] W fun e w' => e = .returned (.bool true) ∧ Below W.heap.size W w' := by
    by_cases hl : len0 ≤ 1048576
    · exact walk len0 cap0 a0 W hl (Lib.hid (code_of_row w0 hl))
    · exact walk_long len0 cap0 a0 W (by omega)
  refine hw.mono fun e W' ⟨he, bel⟩ => ?_
  subst he
  exact ⟨_, rfl, _, _, _, [], _, [], hW', trodAll_mk1 (shut_bool Try.underlying4 _), (trodAll_cons_mk (Below.trod laidOut (by kernel_rfl) (of_decide_eq_true (by kernel_rfl)) k0 bel lt0) trodAll_mk0), rfl, bel.frame _, fun h => by cases h⟩

theorem over : Rows.fnCommonRow.holds Try.pinned (OpenSpec.ofChange Rows.fnCommonSpec) :=
  OpenClaim.holds_of_wide 11 Try.f11 rfl rfl rfl rfl rfl rfl rfl ⟨rfl, rfl, rfl, rfl, rfl⟩ rfl rfl rfl rfl rfl (by kernel_rfl) Try.func11 (by unfold joinedFacts; rw [seat_enter, seat_lift, seat_make]; kernel_rfl)
    (of_decide_eq_true (by kernel_rfl)) (by unfold Func.isWrapper; first | (rw [if_pos (by decide +kernel)]; kernel_rfl) | (rw [if_neg (by decide +kernel)]; exact ⟨rfl, rfl⟩))
    (fun os started H enc _ => lifted os started H enc)

theorem proved : Rows.FnCommonSaid := over
end Go.Proofs.Ytegcjdcinebleaa.fnCommon

