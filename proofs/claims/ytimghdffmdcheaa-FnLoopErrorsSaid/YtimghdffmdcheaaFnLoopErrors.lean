/-
  For every code the law FnLoopErrors returns true: impl.LoopErrors answers as the reference model does; there are as many errors as loops; a net closes, and the heights of its first tree fit all runs, exactly if all errors are 0. No condition: every list of bytes is taken.
-/
import Derived.Test.YtimghdffmdcheaaLv
import Derived.Test.YtimghdffmdcheaaDNj
import Derived.Test.YtimghdffmdcheaaCode
namespace Go.Proofs.Ytimghdffmdcheaa.fnLoopErrors
open Go.ChangeShapes Go.WideShapes Go.ChangeAt Go.RowKit
set_option linter.unusedVariables false

set_option maxHeartbeats 8000000 in
set_option maxRecDepth 100000 in
theorem walk (len cap : Nat) (p : Option Addr) (w : World) (hl : len ≤ 1048576) (h : Hid (Code' w (.slice p len cap))) :
    Calls Try.prog 6 #[.slice p len cap] w fun e w' => e = .returned (.bool true) ∧ Below w.heap.size w w' := by
  have hl' : ¬ (1048576 : Int) < (len : Int) := by omega
  go_enter Try.func6, Try.ntmps6
  go_upto_region 4 with (go_at_call 30; (with_reducible refine (drawErrors_is _ _ h).mono ?_); rintro e wd ⟨N, m, rs, P, ⟨c, hmc, rfl⟩, ⟨hmm, ⟨hN2, hN6⟩, hm8, hns⟩, hR, hb_wd⟩; have hs_wd := hb_wd.size; have HR := Lib.hid hR; have HM := Lib.hid (And.intro hmm hns); clear hR hmm hns)
  clear h
  cases hw : nWhole N rs with
  | false =>
    have c1 := fun w h => Lib.hid (iErrors_no N m (some ⟨P, 0, none⟩) c rs w h HM.out.1 (by omega) hw)
    have c2 := fun w h => Lib.hid (sErrors_no N m (some ⟨P, 0, none⟩) c rs w h HM.out.1 (by omega) hw)
    clear hw
    go_wp2_with (first | (go_at_call 31; (with_reducible refine ((c1 _ ?_).out).mono ?_); (focus ((exact HR.out); done)); rintro e wi ⟨rfl, hb_wi⟩; have hs_wi := hb_wi.size; (try simp at hs_wi)) | (go_at_call 32; (with_reducible refine ((c2 _ ?_).out).mono ?_); (focus ((exact HR.out.below hb_wi); done)); rintro e ws ⟨⟨g, rfl⟩, hb_ws⟩; have hs_ws := hb_ws.size; (try simp at hs_ws)) | (go_at_call 24; (with_reducible refine (sameInts_nil _ _ _ _ _).mono ?_); rintro e wt ⟨rfl, hb_wt⟩; have hs_wt := hb_wt.size; (try simp at hs_wt)))
    go_ret
    exact ⟨rfl, (by repeat (first | assumption | exact Below.refl _ _ | (refine below_chain ?_ (by assumption) (by first | omega | (simp <;> omega) | simp)) | (refine Below.alloc ?_ (by first | omega | (simp <;> omega) | simp) _) | (apply below_drewN) | (apply below_drew) | (refine Below.setCell ?_ (by first | omega | (simp <;> omega) | simp) _)))⟩
  | true =>
    have ht := first_tree hw
    have hkN := ht.len
    obtain ⟨l, hle⟩ : ∃ l, (errs N rs).length = l := ⟨_, rfl⟩
    have hl12 : l ≤ 12 := by
      have := errsTo_len12 (N := N) (rs := rs) rs.length
      have := HM.out.1
      unfold errs at hle; omega
    have c1 := fun w h => Lib.hid (iErrors_any N m (some ⟨P, 0, none⟩) c rs w h HM.out.1 hw)
    have c2 := fun w h => Lib.hid (sErrors_yes N m (some ⟨P, 0, none⟩) c rs w h HM.out.1 hw)
    rw [hle] at c1 c2
    have c3 := fun w h => Lib.hid (iFirst_yes N m (some ⟨P, 0, none⟩) c rs w h HM.out.1 hw)
    have c4 := fun (K d : Nat) (q : Option Addr) w h hq hK => Lib.hid (iTreeHeights_yes N m K (some ⟨P, 0, none⟩) q c d rs (firstT N rs rs.length) w h hq HM.out.1 hK ht)
    have c5 := fun w h => Lib.hid (iLoops_at (N := N) (c := c) (q := some ⟨P, 0, none⟩) w HM.out.1 h (by omega) (errs_len hw).symm)
    have c6 := fun w h => Lib.hid (iCloses_yes N m (some ⟨P, 0, none⟩) c rs _ w h HM.out.1 hw (noErr_closes hw))
    have c7 := fun (L : List Int) (hL : IsHt N (sub rs (firstT N rs rs.length)) L) w h q d hh => Lib.hid (iFits_at (N := N) (c := c) (d := d) (q := some ⟨P, 0, none⟩) (p := q) (hs := L) w HM.out.1 hL.len h hh (by omega) (by omega) (noErr_fits hw hL))
    have HZ := Lib.hid (And.intro hw hle)
    rw [hle] at c5
    obtain ⟨Z, hZ⟩ : ∃ Z, noErr N rs = Z := ⟨_, rfl⟩
    rw [hZ] at c6 c7
    have HZ2 := Lib.hid hZ
    clear hw hle ht hZ
    go_wp2_with (first | ((go_at_call 31; (with_reducible refine ((c1 _ ?_).out).mono ?_); (focus ((exact HR.out); done)); rintro e wi ⟨q, d, rfl, hie, hb_wi⟩; have hs_wi := hb_wi.size; (try simp at hs_wi)); have HI := Lib.hid hie; clear hie) | ((go_at_call 32; (with_reducible refine ((c2 _ ?_).out).mono ?_); (focus ((exact HR.out.below hb_wi); done)); rintro e ws ⟨gs, _, cs, rfl, rfl, hgs, os, hb_ws⟩; have hs_ws := hb_ws.size; (try simp at hs_ws)); have OS := Lib.hid os; clear os) | (go_at_call 24; (with_reducible refine (sameInts_at HZ.out.2 _ _ _ _ _ ?_ ?_ (by omega)).mono ?_); (focus ((exact HI.out.below (by repeat (first | assumption | exact Below.refl _ _ | (refine below_chain ?_ (by assumption) (by first | omega | (simp <;> omega) | simp)) | (refine Below.alloc ?_ (by first | omega | (simp <;> omega) | simp) _) | (apply below_drewN) | (apply below_drew) | (refine Below.setCell ?_ (by first | omega | (simp <;> omega) | simp) _)))); done)); (focus ((exact OS.out.ints); done)); rintro e wt ⟨rfl, hb_wt⟩; have hs_wt := hb_wt.size; (try simp at hs_wt)) | ((go_at_call 28; (with_reducible refine ((c3 _ ?_).out).mono ?_); (focus ((exact HR.out.below (by repeat (first | assumption | exact Below.refl _ _ | (refine below_chain ?_ (by assumption) (by first | omega | (simp <;> omega) | simp)) | (refine Below.alloc ?_ (by first | omega | (simp <;> omega) | simp) _) | (apply below_drewN) | (apply below_drew) | (refine Below.setCell ?_ (by first | omega | (simp <;> omega) | simp) _)))); done)); rintro e wf ⟨gf, cf, K, rfl, hK, hgf, of, hb_wf⟩; have hs_wf := hb_wf.size; (try simp at hs_wf)); have OF := Lib.hid (And.intro hK of); clear hK of) | ((go_at_call 29; (with_reducible refine ((c4 _ _ _ _ ?_ ?_ ?_).out).mono ?_); (focus ((exact HR.out.below (by repeat (first | assumption | exact Below.refl _ _ | (refine below_chain ?_ (by assumption) (by first | omega | (simp <;> omega) | simp)) | (refine Below.alloc ?_ (by first | omega | (simp <;> omega) | simp) _) | (apply below_drewN) | (apply below_drew) | (refine Below.setCell ?_ (by first | omega | (simp <;> omega) | simp) _)))); done)); (focus ((exact OF.out.2.ints); done)); (focus ((exact OF.out.1); done)); rintro e wh ⟨L, gh, rfl, hht, hgh, oh, hb_wh⟩; have hs_wh := hb_wh.size; (try simp at hs_wh)); have OH := Lib.hid (And.intro hht oh); clear hht oh))
    have hI : Ints wh q (errs N rs) := HI.out.below (show Below wi.heap.size wi wh from (by repeat (first | assumption | exact Below.refl _ _ | (refine below_chain ?_ (by assumption) (by first | omega | (simp <;> omega) | simp)) | (refine Below.alloc ?_ (by first | omega | (simp <;> omega) | simp) _) | (apply below_drewN) | (apply below_drew) | (refine Below.setCell ?_ (by first | omega | (simp <;> omega) | simp) _))))
    have HJ := Lib.hid hI
    have hBd : Below wd.heap.size wd wh := (by repeat (first | assumption | exact Below.refl _ _ | (refine below_chain ?_ (by assumption) (by first | omega | (simp <;> omega) | simp)) | (refine Below.alloc ?_ (by first | omega | (simp <;> omega) | simp) _) | (apply below_drewN) | (apply below_drew) | (refine Below.setCell ?_ (by first | omega | (simp <;> omega) | simp) _)))
    have hB : Below w.heap.size w wh := hb_wd.trans (hBd.mono hs_wd)
    have HRh := Lib.hid (HR.out.below hBd)
    have hls := hBd.size
    have hlf := hB.size
    clear HI OS hI c1 c2 c3 c4 HR hb_wd hb_wi hb_ws hb_wt hb_wf hb_wh hBd
    go_loopw [13, 14] (fun z i wr => ∃ (j : Nat) (b : Bool), j ≤ l ∧ i = .int .i64 j ∧ z = .bool b ∧ (b = true ↔ ∀ e ∈ (errs N rs).take j, e = 0) ∧ wh = wr) (fun _ i _ => l - (intOf i).toNat)
    case atStart => exact ⟨0, true, Nat.zero_le _, rfl, rfl, by simp, rfl⟩
    case round =>
      obtain ⟨j, b, hj, rfl, rfl, hb, rfl⟩ := hrel
      by_cases hlt : j < l
      · obtain ⟨B, o, e, rfl, he, hBB, e0⟩ := HJ.out.at (i := j) (by have := HZ.out.2; omega)
        have hlt' : (j : Int) < (l : Int) := by omega
        have hX : ∀ b' : Bool, (b' = true ↔ (b = true ∧ e = 0)) → (b' = true ↔ ∀ e ∈ (errs N rs).take (j + 1), e = 0) := fun b' h' => by
          rw [h', hb, take_succ_of he]
          constructor
          · rintro ⟨h1, h2⟩ x hx
            rcases List.mem_append.1 hx with h | h
            · exact h1 x h
            · simp at h; subst h; exact h2
          · intro h1
            exact ⟨fun x hx => h1 x (List.mem_append_left _ hx), h1 e (List.mem_append_right _ (by simp))⟩
        have HX := Lib.hid hX
        clear hX hb he
        cases b
        · go_wp2_with fail
          go_roundw
          case rel => exact ⟨j + 1, false, by omega, by go_num, rfl, HX.out false (by simp), by first | trivial | rfl⟩
          case measure => simp [intOf]; omega
        · go_wp2_with fail
          go_roundw
          case rel => exact ⟨j + 1, e == 0, by omega, by go_num, rfl, HX.out (e == 0) (by simp), by first | trivial | rfl⟩
          case measure => simp [intOf]; omega
      · have e : j = l := by omega
        subst e
        have hbZ : b = Z := by
          rw [← HZ2.out]
          unfold noErr
          rw [List.take_of_length_le (Nat.le_of_eq HZ.out.2)] at hb
          cases b
          · exact (decide_eq_false (fun h => by simpa using hb.2 h)).symm
          · exact (decide_eq_true (hb.1 rfl)).symm
        subst hbZ
        clear hb
        have hbb : (b != b) = false := by simp
        have c8 := fun w h hh => (c7 L OH.out.1 w h (some ⟨gh, 0, none⟩) N hh)
        clear c7
        go_wp2_with (first | (go_at_call 33; (with_reducible refine ((c5 _ ?_).out).mono ?_); (focus (exact HRh.out; done)); rintro e w1 ⟨rfl, hb_w1⟩; have hs_w1 := hb_w1.size) | ((go_at_call 34; (with_reducible refine ((c6 _ ?_).out).mono ?_); (focus ((exact HRh.out.below (by repeat (first | assumption | exact Below.refl _ _ | (refine below_chain ?_ (by assumption) (by first | omega | (simp <;> omega) | simp)) | (refine Below.alloc ?_ (by first | omega | (simp <;> omega) | simp) _) | (apply below_drewN) | (apply below_drew) | (refine Below.setCell ?_ (by first | omega | (simp <;> omega) | simp) _)))); done)); rintro e w2 ⟨rfl, hb_w2⟩; have hs_w2 := hb_w2.size; (try simp at hs_w2))) | ((go_at_call 35; (with_reducible refine ((c8 _ ?_ ?_).out).mono ?_); (focus ((exact HRh.out.below (by repeat (first | assumption | exact Below.refl _ _ | (refine below_chain ?_ (by assumption) (by first | omega | (simp <;> omega) | simp)) | (refine Below.alloc ?_ (by first | omega | (simp <;> omega) | simp) _) | (apply below_drewN) | (apply below_drew) | (refine Below.setCell ?_ (by first | omega | (simp <;> omega) | simp) _)))); done)); (focus ((exact (OH.out.2.below (by repeat (first | assumption | exact Below.refl _ _ | (refine below_chain ?_ (by assumption) (by first | omega | (simp <;> omega) | simp)) | (refine Below.alloc ?_ (by first | omega | (simp <;> omega) | simp) _) | (apply below_drewN) | (apply below_drew) | (refine Below.setCell ?_ (by first | omega | (simp <;> omega) | simp) _)))).ints); done)); rintro e w3 ⟨rfl, hb_w3⟩; have hs_w3 := hb_w3.size; (try simp at hs_w3))))
        go_ret
        exact ⟨rfl, (by repeat (first | assumption | exact Below.refl _ _ | (refine below_chain ?_ (by assumption) (by first | omega | (simp <;> omega) | simp)) | (refine Below.alloc ?_ (by first | omega | (simp <;> omega) | simp) _) | (apply below_drewN) | (apply below_drew) | (refine Below.setCell ?_ (by first | omega | (simp <;> omega) | simp) _)))⟩

set_option maxRecDepth 100000 in
theorem walk_long (len cap : Nat) (p : Option Addr) (w : World) (hl : 1048576 < len) :
    Calls Try.prog 6 #[.slice p len cap] w fun e w' => e = .returned (.bool true) ∧ Below w.heap.size w w' := by
  have hl' : (1048576 : Int) < (len : Int) := by omega
  go_enter Try.func6, Try.ntmps6
  go_wp2
  go_ret
  exact ⟨rfl, Below.refl _ _⟩

set_option maxRecDepth 100000 in
theorem lifted (os : Os) (started : os.Started) (H : Type) (enc : TypeId × Value → H) :
    ReturnsInHanded {} Try.checked os 6 .any (Rows.fnLoopErrorsSpec.pre6 enc Try.prog Try.f6 Rows.fnLoopErrorsRow.domain false) (Rows.fnLoopErrorsSpec.post enc Try.prog Try.f6 false true false false) := by
  refine returnsInHanded_of_change (C := Try.checked) own started (by kernel_rfl) Try.func6
    (ChangeSpec.witness6 (enc := enc) (C := Try.checked) false ⟨#[], #[.slice none 0 0], []⟩ 8 (by kernel_rfl) (by kernel_rfl) (by kernel_rfl) (by kernel_rfl)) ?_
  intro W base args ds gs before hval0 hW hcnd _
  have hval : ∀ (j : Nat) t v, Try.f6.params[j]? = some t → args[j]? = some v → Value.okWide Try.prog W .any base t v := hval0
  have hW' := hW
  obtain ⟨p, q, hA0, hV, rfl, hfz, hnd⟩ := hW
  have hA : DataW.TrodAll enc Try.prog W 0 (fun _ => true) true Try.f6.params.toList args.toList ds p := hA0
  rw [Try.params6] at hA hval
  obtain ⟨v0, vs0, d0, ds0, p0, q0, hargs, rfl, rfl, h0, r0⟩ := trodAll_cons hA
  obtain ⟨rfl, rfl, rfl⟩ := trodAll_nil r0
  obtain rfl : args = #[v0] := by cases args; simp_all
  obtain ⟨rfl, rfl⟩ := trodVars_none hV
  obtain ⟨a0, len0, cap0, rfl⟩ := okWide_slice Try.underlying22 (hval 0 22 v0 rfl rfl)
  have k0 := h0
  have lt0 : ∀ x ∈ p0, x.block < W.heap.size := by obtain ⟨m, hm⟩ := k0; exact DataW.trod_lt m _ _ _ hm
  obtain ⟨z0, w0⟩ : ∃ zs, IsRow .u8 W a0 len0 cap0 zs := by
    obtain ⟨fuel, hf⟩ := h0
    rcases open_ints Try.underlying22 Try.underlying5 (by kernel_rfl) hf with ⟨hcs, _⟩ | ⟨x, l, c, zs, hcs, _, hl, hm, hz, _, hcell, hwz⟩
    · simp [Value.cells] at hcs
      obtain ⟨rfl, rfl, rfl⟩ := hcs
      exact ⟨[], .inl ⟨rfl, rfl, rfl, rfl⟩⟩
    · simp [Value.cells] at hcs
      obtain ⟨rfl, rfl, rfl⟩ := hcs
      exact ⟨zs, .inr ⟨_, rfl, hl, hm, by simpa using hz, hcell, hwz⟩⟩
  clear hA0 hval0
  have hw : Calls Try.prog 6 #[.slice a0 len0 cap0] W fun e w' => e = .returned (.bool true) ∧ Below W.heap.size W w' := by
    by_cases hl : len0 ≤ 1048576
    · exact walk len0 cap0 a0 W hl (Lib.hid (code_of_row w0 hl))
    · exact walk_long len0 cap0 a0 W (by omega)
  refine hw.mono fun e W' ⟨he, bel⟩ => ?_
  subst he
  exact ⟨_, rfl, _, _, _, [], _, [], hW', trodAll_mk1 (shut_bool Try.underlying4 _), (trodAll_cons_mk (Below.trod laidOut (by kernel_rfl) (of_decide_eq_true (by kernel_rfl)) k0 bel lt0) trodAll_mk0), rfl, bel.frame _, fun h => by cases h⟩

theorem over : Rows.fnLoopErrorsRow.holds Try.pinned (OpenSpec.ofChange Rows.fnLoopErrorsSpec) :=
  OpenClaim.holds_of_wide 6 Try.f6 rfl rfl rfl rfl rfl rfl rfl ⟨rfl, rfl, rfl, rfl, rfl⟩ rfl rfl rfl rfl rfl (by kernel_rfl) Try.func6 (by kernel_rfl)
    (of_decide_eq_true (by kernel_rfl)) (by unfold Func.isWrapper; first | (rw [if_pos (by decide +kernel)]; kernel_rfl) | (rw [if_neg (by decide +kernel)]; exact ⟨rfl, rfl⟩))
    (fun os started H enc _ => lifted os started H enc)

theorem proved : Rows.FnLoopErrorsSaid := over
end Go.Proofs.Ytimghdffmdcheaa.fnLoopErrors

