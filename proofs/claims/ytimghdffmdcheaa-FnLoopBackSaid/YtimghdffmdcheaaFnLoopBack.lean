/-
  For every code the law FnLoopBack returns true: impl.LoopBack answers as the reference model does; turned twice a loop is as it was, its error has the opposite sign, and both behind each other have no error. No condition: every list of bytes is taken.
-/
import Derived.Test.YtimghdffmdcheaaLv
import Derived.Test.YtimghdffmdcheaaDNm
import Derived.Test.YtimghdffmdcheaaCode
namespace Go.Proofs.Ytimghdffmdcheaa.fnLoopBack
open Go.ChangeShapes Go.WideShapes Go.ChangeAt Go.RowKit
set_option linter.unusedVariables false

set_option maxHeartbeats 8000000 in
set_option maxRecDepth 100000 in
theorem walk (len cap : Nat) (p : Option Addr) (w : World) (hl : len ≤ 1048576) (h : Hid (Code' w (.slice p len cap))) :
    Calls Try.prog 4 #[.slice p len cap] w fun e w' => e = .returned (.bool true) ∧ Below w.heap.size w w' := by
  have hl' : ¬ (1048576 : Int) < (len : Int) := by omega
  go_enter Try.func4, Try.ntmps4
  go_upto_region 4 with (go_at_call 21; (with_reducible refine (drawLoopBack_is _ _ h).mono ?_); rintro e wd ⟨N, m, k, rs, T, P, Q, d, ⟨c, rfl⟩, ⟨hmm, hkk, ⟨hN2, hN6⟩, hm8, hk12, hkd⟩, hR, hI, hb_wd⟩; have hs_wd := hb_wd.size; have HR := Lib.hid hR; have HI := Lib.hid hI; have HM := Lib.hid (And.intro hmm hkk); clear hR hI hmm hkk)
  clear h
  obtain ⟨b, hb⟩ : ∃ b, isL N rs T = b := ⟨_, rfl⟩
  cases b
  · have c1 := fun w h hh => Lib.hid (iLoopBack_no N m k (some ⟨P, 0, none⟩) (some ⟨Q, 0, none⟩) c d rs T w h hh HM.out.1 HM.out.2 (by omega) (by omega) hb)
    have c2 := fun w h hh => Lib.hid (sLoopBack_no N m k (some ⟨P, 0, none⟩) (some ⟨Q, 0, none⟩) c d rs T w h hh HM.out.1 HM.out.2 (by omega) (by omega) hb)
    clear hb
    go_wp2_with (first | (go_at_call 22; (with_reducible refine ((c1 _ ?_ ?_).out).mono ?_); (focus ((exact HR.out); done)); (focus ((exact HI.out); done)); rintro e wi ⟨rfl, hb_wi⟩; have hs_wi := hb_wi.size; (try simp at hs_wi)) | (go_at_call 23; (with_reducible refine ((c2 _ ?_ ?_).out).mono ?_); (focus ((exact HR.out.below hb_wi); done)); (focus ((exact HI.out.below hb_wi); done)); rintro e ws ⟨⟨g, rfl⟩, hb_ws⟩; have hs_ws := hb_ws.size; (try simp at hs_ws)) | (go_at_call 24; (with_reducible refine (sameInts_nil _ _ _ _ _).mono ?_); rintro e wt ⟨rfl, hb_wt⟩; have hs_wt := hb_wt.size; (try simp at hs_wt)))
    go_ret
    exact ⟨rfl, (by repeat (first | assumption | exact Below.refl _ _ | (refine below_chain ?_ (by assumption) (by first | omega | (simp <;> omega) | simp)) | (refine Below.alloc ?_ (by first | omega | (simp <;> omega) | simp) _) | (apply below_drewN) | (apply below_drew) | (refine Below.setCell ?_ (by first | omega | (simp <;> omega) | simp) _)))⟩
  · have hL := isL_true.1 hb
    have hk1 : 1 ≤ k := by have := hL.one; have := HM.out.2; omega
    have hLB := isL_back hL
    have hbl : (back T).length = k := by rw [back_len]; exact HM.out.2
    have hm12 : m ≤ 12 := by omega
    have c1 := fun w h hh => Lib.hid (iLoopBack_yes N m k (some ⟨P, 0, none⟩) (some ⟨Q, 0, none⟩) c d rs T w h hh HM.out.1 HM.out.2 hb)
    have c2 := fun w h hh => Lib.hid (sLoopBack_yes N m k (some ⟨P, 0, none⟩) (some ⟨Q, 0, none⟩) c d rs T w h hh HM.out.1 HM.out.2 hb)
    have c3 := fun g cg w h hh => Lib.hid (iLoopBack_yes N m k (some ⟨P, 0, none⟩) (some ⟨g, 0, none⟩) c cg rs (back T) w h hh HM.out.1 hbl (isL_true.2 hLB))
    have c4 := fun w h hh => Lib.hid (iLoopError_yes N m k (some ⟨P, 0, none⟩) (some ⟨Q, 0, none⟩) c d rs T w h hh HM.out.1 HM.out.2 hb)
    have c5 := fun g cg w h hh => Lib.hid (iLoopError_yes N m k (some ⟨P, 0, none⟩) (some ⟨g, 0, none⟩) c cg rs (back T) w h hh HM.out.1 hbl (isL_true.2 hLB))
    rw [back_back] at c3
    rw [hL.back_sum] at c5
    have HL := Lib.hid (And.intro hL hbl)
    obtain ⟨s, hs⟩ : ∃ s, lsum rs T = s := ⟨_, rfl⟩
    rw [hs] at c4 c5
    clear hb hL hLB hbl hs
    go_upto_region 11 with (first | ((go_at_call 22; (with_reducible refine ((c1 _ ?_ ?_).out).mono ?_); (focus ((exact HR.out); done)); (focus ((exact HI.out); done)); rintro e wi ⟨g, cg, rfl, hg, ho, hb_wi⟩; have hs_wi := hb_wi.size; (try simp at hs_wi)); have HO := Lib.hid ho; clear ho) | ((go_at_call 23; (with_reducible refine ((c2 _ ?_ ?_).out).mono ?_); (focus ((exact HR.out.below hb_wi); done)); (focus ((exact HI.out.below hb_wi); done)); rintro e ws ⟨g2, cg2, rfl, hg2, ho2, hb_ws⟩; have hs_ws := hb_ws.size; (try simp at hs_ws)); have HO2 := Lib.hid ho2; clear ho2) | (go_at_call 24; (with_reducible refine (sameInts_at HL.out.2 _ _ _ _ _ ?_ ?_ (by omega)).mono ?_); (focus ((exact (HO.out.below (by repeat (first | assumption | exact Below.refl _ _ | (refine below_chain ?_ (by assumption) (by first | omega | (simp <;> omega) | simp)) | (refine Below.alloc ?_ (by first | omega | (simp <;> omega) | simp) _) | (apply below_drewN) | (apply below_drew) | (refine Below.setCell ?_ (by first | omega | (simp <;> omega) | simp) _)))).ints); done)); (focus ((exact HO2.out.ints); done)); rintro e wt ⟨rfl, hb_wt⟩; have hs_wt := hb_wt.size; (try simp at hs_wt)) | ((go_at_call 22; (with_reducible refine ((c3 _ _ _ ?_ ?_).out).mono ?_); (focus ((exact HR.out.below (by repeat (first | assumption | exact Below.refl _ _ | (refine below_chain ?_ (by assumption) (by first | omega | (simp <;> omega) | simp)) | (refine Below.alloc ?_ (by first | omega | (simp <;> omega) | simp) _) | (apply below_drewN) | (apply below_drew) | (refine Below.setCell ?_ (by first | omega | (simp <;> omega) | simp) _)))); done)); (focus ((exact (HO.out.below (by repeat (first | assumption | exact Below.refl _ _ | (refine below_chain ?_ (by assumption) (by first | omega | (simp <;> omega) | simp)) | (refine Below.alloc ?_ (by first | omega | (simp <;> omega) | simp) _) | (apply below_drewN) | (apply below_drew) | (refine Below.setCell ?_ (by first | omega | (simp <;> omega) | simp) _)))).ints); done)); rintro e wx ⟨g3, cg3, rfl, hg3, ho3, hb_wx⟩; have hs_wx := hb_wx.size; (try simp at hs_wx)); have HO3 := Lib.hid ho3; clear ho3) | (go_at_call 18; (with_reducible refine ((c4 _ ?_ ?_).out).mono ?_); (focus ((exact HR.out.below (by repeat (first | assumption | exact Below.refl _ _ | (refine below_chain ?_ (by assumption) (by first | omega | (simp <;> omega) | simp)) | (refine Below.alloc ?_ (by first | omega | (simp <;> omega) | simp) _) | (apply below_drewN) | (apply below_drew) | (refine Below.setCell ?_ (by first | omega | (simp <;> omega) | simp) _)))); done)); (focus ((exact HI.out.below (by repeat (first | assumption | exact Below.refl _ _ | (refine below_chain ?_ (by assumption) (by first | omega | (simp <;> omega) | simp)) | (refine Below.alloc ?_ (by first | omega | (simp <;> omega) | simp) _) | (apply below_drewN) | (apply below_drew) | (refine Below.setCell ?_ (by first | omega | (simp <;> omega) | simp) _)))); done)); rintro e wa ⟨rfl, hb_wa⟩; have hs_wa := hb_wa.size; (try simp at hs_wa)) | (go_at_call 18; (with_reducible refine ((c5 _ _ _ ?_ ?_).out).mono ?_); (focus ((exact HR.out.below (by repeat (first | assumption | exact Below.refl _ _ | (refine below_chain ?_ (by assumption) (by first | omega | (simp <;> omega) | simp)) | (refine Below.alloc ?_ (by first | omega | (simp <;> omega) | simp) _) | (apply below_drewN) | (apply below_drew) | (refine Below.setCell ?_ (by first | omega | (simp <;> omega) | simp) _)))); done)); (focus ((exact (HO.out.below (by repeat (first | assumption | exact Below.refl _ _ | (refine below_chain ?_ (by assumption) (by first | omega | (simp <;> omega) | simp)) | (refine Below.alloc ?_ (by first | omega | (simp <;> omega) | simp) _) | (apply below_drewN) | (apply below_drew) | (refine Below.setCell ?_ (by first | omega | (simp <;> omega) | simp) _)))).ints); done)); rintro e wb ⟨rfl, hb_wb⟩; have hs_wb := hb_wb.size; (try simp at hs_wb)))
    have hBx : Below wx.heap.size wx wb := (by repeat (first | assumption | exact Below.refl _ _ | (refine below_chain ?_ (by assumption) (by first | omega | (simp <;> omega) | simp)) | (refine Below.alloc ?_ (by first | omega | (simp <;> omega) | simp) _) | (apply below_drewN) | (apply below_drew) | (refine Below.setCell ?_ (by first | omega | (simp <;> omega) | simp) _)))
    have hBi : Below wi.heap.size wi wb := (by repeat (first | assumption | exact Below.refl _ _ | (refine below_chain ?_ (by assumption) (by first | omega | (simp <;> omega) | simp)) | (refine Below.alloc ?_ (by first | omega | (simp <;> omega) | simp) _) | (apply below_drewN) | (apply below_drew) | (refine Below.setCell ?_ (by first | omega | (simp <;> omega) | simp) _)))
    have hBd : Below wd.heap.size wd wb := (by repeat (first | assumption | exact Below.refl _ _ | (refine below_chain ?_ (by assumption) (by first | omega | (simp <;> omega) | simp)) | (refine Below.alloc ?_ (by first | omega | (simp <;> omega) | simp) _) | (apply below_drewN) | (apply below_drew) | (refine Below.setCell ?_ (by first | omega | (simp <;> omega) | simp) _)))
    have hgb : g < wb.heap.size := by have := HO.out.lt; omega
    have HB := Lib.hid (And.intro hBd (And.intro (hb_wd.trans (hBd.mono hs_wd)) (And.intro (HR.out.below hBd) (And.intro (HI.out.below hBd) (And.intro (HO.out.below hBi) (HO3.out.below hBx))))))
    have hdb := hBd.size
    have hwb := HB.out.2.1.size
    clear hb_wd hb_wi hb_ws hb_wt hb_wx hb_wa hb_wb hBd hBi hBx HR HI HO HO2 HO3 c1 c2 c3 c4 c5
    obtain ⟨kk, hkk⟩ : ∃ kk, k + k = kk := ⟨_, rfl⟩
    have HKK := Lib.hid hkk
    go_upto_region 12 with (first | (at_builtin; refine wp_append _ rfl _ _ 24 rfl 3 _ 1 8 Try.underlying24 info_int rfl (by decide) (by decide) _ 0 0 [] rfl (Own.empty _ _ 1) _ _ _ T rfl (by rw [HM.out.2, Nat.mul_one]) (ints_cellsI (HB.out.2.2.2.1.alloc _)) (by omega) ?_; intro g1 cap1 w1 hown hgr hloc hsz1; simp only [Nat.zero_add, List.nil_append] at hown ⊢; have hg1 : wb.heap.size ≤ g1 := (by rcases hloc with rfl | rfl <;> simp); have hb_w1 : Below wb.heap.size wb w1 := below_gr ((Below.refl _ _).alloc (Nat.le_refl _) _) hgr (Nat.le_refl _) (by simp); have hs_w1 := hb_w1.size; have HO1 := Lib.hid hown; clear hown hgr hloc) | (at_builtin; refine wp_append _ rfl _ _ 24 rfl 3 _ 1 8 Try.underlying24 info_int rfl (by decide) (by decide) _ k cap1 T rfl HO1.out _ _ _ (back T) rfl (by rw [HL.out.2, Nat.mul_one]) (ints_cellsI (HB.out.2.2.2.2.1.below hb_w1).ints) (by omega) ?_; intro g2 cap2 w2 hown hgr hloc hsz2; rw [HKK.out] at hown ⊢; have hg2 : wb.heap.size ≤ g2 := (by rcases hloc with rfl | rfl <;> omega); have hb_w2 : Below wb.heap.size wb w2 := below_gr hb_w1 hgr (by omega) (by omega); have hs_w2 := hb_w2.size; have HO2 := Lib.hid hown; clear hown hgr hloc))
    have HW := Lib.hid hb_w2
    clear hb_w1 HO1 hs_w1
    have hkk1 : ¬ kk = 0 := by omega
    have hlen : (T ++ back T).length = kk := by rw [List.length_append, HL.out.2, HM.out.2]; exact hkk
    have c3 := fun w hp hq => Lib.hid (sameInts_at HM.out.2 (some ⟨g3, 0, none⟩) (some ⟨Q, 0, none⟩) cg3 d w hp hq (by omega))
    by_cases h12 : kk ≤ 12
    · have hX := isL_both HL.out.1 (by have := HM.out.2; omega)
      have c6 := fun w h hh => Lib.hid (iLoopError_yes N m kk (some ⟨P, 0, none⟩) (some ⟨g2, 0, none⟩) c cap2 rs (T ++ back T) w h hh HM.out.1 hlen (isL_true.2 hX.1))
      rw [hX.2] at c6
      clear hX hkk
      go_wp2_with (first | (go_at_call 18; (with_reducible refine ((c6 _ ?_ ?_).out).mono ?_); (focus ((exact HB.out.2.2.1.below hb_w2); done)); (focus ((exact HO2.out.ints); done)); rintro e wc ⟨rfl, hb_wc⟩; have hs_wc := hb_wc.size; (try simp at hs_wc)) | (go_at_call 24; (with_reducible refine ((c3 _ ?_ ?_).out).mono ?_); (focus ((exact ((HB.out.2.2.2.2.2.below hb_w2).below hb_wc).ints); done)); (focus ((exact (HB.out.2.2.2.1.below hb_w2).below hb_wc); done)); rintro e we ⟨rfl, hb_we⟩; have hs_we := hb_we.size; (try simp at hs_we)))
      go_ret
      exact ⟨rfl, HB.out.2.1.trans (by repeat (first | assumption | exact Below.refl _ _ | (refine below_chain ?_ (by assumption) (by first | omega | (simp <;> omega) | simp)) | (refine Below.alloc ?_ (by first | omega | (simp <;> omega) | simp) _) | (apply below_drewN) | (apply below_drew) | (refine Below.setCell ?_ (by first | omega | (simp <;> omega) | simp) _)))⟩
    · have hX : isL N rs (T ++ back T) = false := isL_false.2 (fun hc => by have := hc.most; omega)
      have c6 := fun w h hh => Lib.hid (iLoopError_no N m kk (some ⟨P, 0, none⟩) (some ⟨g2, 0, none⟩) c cap2 rs (T ++ back T) w h hh HM.out.1 hlen (by omega) (by omega) hX)
      clear hX hkk
      have h12' : (12 : Int) < (kk : Int) := by omega
      go_wp2_with (first | (go_at_call 18; (with_reducible refine ((c6 _ ?_ ?_).out).mono ?_); (focus ((exact HB.out.2.2.1.below hb_w2); done)); (focus ((exact HO2.out.ints); done)); rintro e wc ⟨rfl, hb_wc⟩; have hs_wc := hb_wc.size; (try simp at hs_wc)) | (go_at_call 24; (with_reducible refine ((c3 _ ?_ ?_).out).mono ?_); (focus ((exact ((HB.out.2.2.2.2.2.below hb_w2).below hb_wc).ints); done)); (focus ((exact (HB.out.2.2.2.1.below hb_w2).below hb_wc); done)); rintro e we ⟨rfl, hb_we⟩; have hs_we := hb_we.size; (try simp at hs_we)))
      go_ret
      exact ⟨rfl, HB.out.2.1.trans (by repeat (first | assumption | exact Below.refl _ _ | (refine below_chain ?_ (by assumption) (by first | omega | (simp <;> omega) | simp)) | (refine Below.alloc ?_ (by first | omega | (simp <;> omega) | simp) _) | (apply below_drewN) | (apply below_drew) | (refine Below.setCell ?_ (by first | omega | (simp <;> omega) | simp) _)))⟩

set_option maxRecDepth 100000 in
theorem walk_long (len cap : Nat) (p : Option Addr) (w : World) (hl : 1048576 < len) :
    Calls Try.prog 4 #[.slice p len cap] w fun e w' => e = .returned (.bool true) ∧ Below w.heap.size w w' := by
  have hl' : (1048576 : Int) < (len : Int) := by omega
  go_enter Try.func4, Try.ntmps4
  go_wp2
  go_ret
  exact ⟨rfl, Below.refl _ _⟩

set_option maxRecDepth 100000 in
theorem lifted (os : Os) (started : os.Started) (H : Type) (enc : TypeId × Value → H) :
    ReturnsInHanded {} Try.checked os 4 .any (Rows.fnLoopBackSpec.pre6 enc Try.prog Try.f4 Rows.fnLoopBackRow.domain false) (Rows.fnLoopBackSpec.post enc Try.prog Try.f4 false true false false) := by
  refine returnsInHanded_of_change (C := Try.checked) own started (by kernel_rfl) Try.func4
    (ChangeSpec.witness6 (enc := enc) (C := Try.checked) false ⟨#[], #[.slice none 0 0], []⟩ 8 (by kernel_rfl) (by kernel_rfl) (by kernel_rfl) (by kernel_rfl)) ?_
  intro W base args ds gs before hval0 hW hcnd _
  have hval : ∀ (j : Nat) t v, Try.f4.params[j]? = some t → args[j]? = some v → Value.okWide Try.prog W .any base t v := hval0
  have hW' := hW
  obtain ⟨p, q, hA0, hV, rfl, hfz, hnd⟩ := hW
  have hA : DataW.TrodAll enc Try.prog W 0 (fun _ => true) true Try.f4.params.toList args.toList ds p := hA0
  rw [Try.params4] at hA hval
  obtain ⟨v0, vs0, d0, ds0, p0, q0, hargs, rfl, rfl, h0, r0⟩ := trodAll_cons hA
  obtain ⟨rfl, rfl, rfl⟩ := trodAll_nil r0
  obtain rfl : args = #[v0] := by cases args; simp_all
  obtain ⟨rfl, rfl⟩ := trodVars_none hV
  obtain ⟨a0, len0, cap0, rfl⟩ := okWide_slice Try.underlying22 (hval 0 22 v0 rfl rfl)
  have k0 := h0
  have lt0 : ∀ x ∈ p0, x.block < W.heap.size := by obtain ⟨m, hm⟩ := k0; exact DataW.trod_lt m _ _ _ hm
  obtain ⟨z0, w0⟩ : ∃ zs, IsRow .u8 W a0 len0 cap0 zs := by
    obtain ⟨fuel, hf⟩ := h0
    rcases open_ints Try.underlying22 Try.underlying5 (by kernel_rfl) hf with ⟨hcs, _⟩ | ⟨x, l, c, zs, hcs, _, hl, hm, hz, _, hcell, hwz⟩
    · simp [Value.cells] at hcs
      obtain ⟨rfl, rfl, rfl⟩ := hcs
      exact ⟨[], .inl ⟨rfl, rfl, rfl, rfl⟩⟩
    · simp [Value.cells] at hcs
      obtain ⟨rfl, rfl, rfl⟩ := hcs
      exact ⟨zs, .inr ⟨_, rfl, hl, hm, by simpa using hz, hcell, hwz⟩⟩
  clear hA0 hval0
  have hw : Calls Try.prog 4 #[.slice a0 len0 cap0] W fun e w' => e = .returned (.bool true) ∧ Below W.heap.size W w' := by
    by_cases hl : len0 ≤ 1048576
    · exact walk len0 cap0 a0 W hl (Lib.hid (code_of_row w0 hl))
    · exact walk_long len0 cap0 a0 W (by omega)
  refine hw.mono fun e W' ⟨he, bel⟩ => ?_
  subst he
  exact ⟨_, rfl, _, _, _, [], _, [], hW', trodAll_mk1 (shut_bool Try.underlying4 _), (trodAll_cons_mk (Below.trod laidOut (by kernel_rfl) (of_decide_eq_true (by kernel_rfl)) k0 bel lt0) trodAll_mk0), rfl, bel.frame _, fun h => by cases h⟩

theorem over : Rows.fnLoopBackRow.holds Try.pinned (OpenSpec.ofChange Rows.fnLoopBackSpec) :=
  OpenClaim.holds_of_wide 4 Try.f4 rfl rfl rfl rfl rfl rfl rfl ⟨rfl, rfl, rfl, rfl, rfl⟩ rfl rfl rfl rfl rfl (by kernel_rfl) Try.func4 (by kernel_rfl)
    (of_decide_eq_true (by kernel_rfl)) (by unfold Func.isWrapper; first | (rw [if_pos (by decide +kernel)]; kernel_rfl) | (rw [if_neg (by decide +kernel)]; exact ⟨rfl, rfl⟩))
    (fun os started H enc _ => lifted os started H enc)

theorem proved : Rows.FnLoopBackSaid := over
end Go.Proofs.Ytimghdffmdcheaa.fnLoopBack

