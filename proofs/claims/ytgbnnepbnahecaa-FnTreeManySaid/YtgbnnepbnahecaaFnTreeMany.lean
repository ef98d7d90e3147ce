/-
  For every code the law FnTreeMany returns true: impl.TreeMany answers how many trees a net has as the reference model does; no part of the runs has more; it is more than 0 exactly if the net is whole, and more than 1 only with a loop. No condition: every list of bytes is taken.
-/
import Derived.Test.YtgbnnepbnahecaaTz
import Derived.Test.YtgbnnepbnahecaaUz
import Derived.Test.YtgbnnepbnahecaaNU
import Derived.Test.YtgbnnepbnahecaaDNi
import Derived.Test.YtgbnnepbnahecaaCode
namespace Go.Proofs.Ytgbnnepbnahecaa.fnTreeMany
open Go.ChangeShapes Go.WideShapes Go.ChangeAt Go.RowKit
set_option linter.unusedVariables false

set_option maxHeartbeats 4000000 in
set_option maxRecDepth 100000 in
theorem walk (len cap : Nat) (p : Option Addr) (w : World) (hl : len ≤ 1048576) (h : Hid (Code' w (.slice p len cap))) :
    Calls Try.prog 5 #[.slice p len cap] w fun e w' => e = .returned (.bool true) ∧ Below w.heap.size w w' := by
  have hl' : ¬ (1048576 : Int) < (len : Int) := by omega
  go_enter Try.func5, Try.ntmps5
  go_upto_region 4 with (go_at_call 23; (with_reducible refine (drawTreeMany_is _ _ h).mono ?_); rintro e wd ⟨N, m, rs, P, ⟨c, hmc, rfl⟩, hmm, ⟨hN2, hN6⟩, hm8, hR, hb_wd⟩; have hs_wd := hb_wd.size; have HR := Lib.hid hR; have HM := Lib.hid hmm; clear hR hmm)
  have hm8' : m ≤ 8 := by have := HM.out; omega
  clear h hm8
  obtain ⟨b, hn⟩ : ∃ b, nOk N rs = b := ⟨_, rfl⟩
  cases b
  · have c1 := fun w h => Lib.hid (iMany_no N m c (some ⟨P, 0, none⟩) rs w h HM.out (by omega) hn)
    have c2 := fun w h => Lib.hid (sMany_no N m c (some ⟨P, 0, none⟩) rs w h HM.out (by omega) hn)
    clear hn
    go_wp2_with (first | (go_at_call 24; (with_reducible refine ((c1 _ ?_).out).mono ?_); (focus ((exact HR.out); done)); rintro e wi ⟨rfl, hb_wi⟩; have hs_wi := hb_wi.size; (try simp at hs_wi)) | (go_at_call 25; (with_reducible refine ((c2 _ ?_).out).mono ?_); (focus ((exact HR.out.below hb_wi); done)); rintro e ws ⟨rfl, hb_ws⟩; have hs_ws := hb_ws.size; (try simp at hs_ws)))
    go_ret
    exact ⟨rfl, (by repeat (first | assumption | exact Below.refl _ _ | (refine below_chain ?_ (by assumption) (by first | omega | (simp <;> omega) | simp)) | (refine Below.alloc ?_ (by first | omega | (simp <;> omega) | simp) _) | (apply below_drewN) | (apply below_drew) | (refine Below.setCell ?_ (by first | omega | (simp <;> omega) | simp) _)))⟩
  · obtain ⟨M, hM⟩ : ∃ M, many N rs = M := ⟨_, rfl⟩
    obtain ⟨b, hb⟩ : ∃ b, nWhole N rs = b := ⟨_, rfl⟩
    obtain ⟨v, hv⟩ : ∃ v, nLoops N rs = v := ⟨_, rfl⟩
    obtain ⟨M', hM'⟩ : ∃ M', many N (rs.take (m - 1)) = M' := ⟨_, rfl⟩
    have hMM : M' ≤ M := by rw [← hM, ← hM']; exact many_take hn _
    have hw : 0 < M ↔ b = true := by rw [← hM, ← hb]; exact many_whole
    have hone : 1 < M → 0 < v := fun h1 => by
      have hb' : nWhole N rs = true := by rw [hb]; exact hw.1 (by omega)
      by_cases hv0 : v ≤ 0
      · have := many_one hb' (by rw [hv]; exact hv0)
        omega
      · omega
    have c1 := fun w h => Lib.hid (by have := iMany_yes N m c (some ⟨P, 0, none⟩) rs w h HM.out hn; rw [hM] at this; exact this)
    have c2 := fun w h => Lib.hid (by have := sMany_yes N m c (some ⟨P, 0, none⟩) rs w h HM.out hn; rw [hM] at this; exact this)
    have hk : (rs.take (m - 1)).length = m - 1 := by simp; have := HM.out; omega
    have c3 := fun w h => Lib.hid (by have := iMany_yes N (m - 1) c (some ⟨P, 0, none⟩) (rs.take (m - 1)) w h hk (nOk_take hn _); rw [hM'] at this; exact this)
    have c4 := fun w h => Lib.hid (iWhole_n (n := N) (p := some ⟨P, 0, none⟩) (c := c) (b := b) w HM.out h (by omega) hb)
    have c5 := fun w h => Lib.hid (iLoops_at (N := N) (q := some ⟨P, 0, none⟩) (c := c) (v := v) w HM.out h (by omega) hv)
    have HT := Lib.hid (runs_take HR.out (m - 1))
    have HV := Lib.hid (And.intro hMM (And.intro hw hone))
    have hP : 0 < m → P < wd.heap.size := fun h0 => by
      obtain ⟨B, o, r, e, -, hB, -⟩ := HR.out.at (i := 0) (by have := HM.out; omega)
      cases e; omega
    clear hn hM hb hv hM' hMM hw hone hk
    by_cases h0 : m = 0
    · subst h0
      go_upto_region 10 with (first | (go_at_call 24; (with_reducible refine ((c1 _ ?_).out).mono ?_); (focus ((exact HR.out); done)); rintro e wi ⟨rfl, hb_wi⟩; have hs_wi := hb_wi.size; (try simp at hs_wi)) | (go_at_call 25; (with_reducible refine ((c2 _ ?_).out).mono ?_); (focus ((exact HR.out.below hb_wi); done)); rintro e ws ⟨rfl, hb_ws⟩; have hs_ws := hb_ws.size; (try simp at hs_ws)))
      have HW := Lib.hid (HR.out.below (w' := ws) (by repeat (first | assumption | exact Below.refl _ _ | (refine below_chain ?_ (by assumption) (by first | omega | (simp <;> omega) | simp)) | (refine Below.alloc ?_ (by first | omega | (simp <;> omega) | simp) _) | (apply below_drewN) | (apply below_drew) | (refine Below.setCell ?_ (by first | omega | (simp <;> omega) | simp) _))))
      have hBW : Below w.heap.size w ws := (by repeat (first | assumption | exact Below.refl _ _ | (refine below_chain ?_ (by assumption) (by first | omega | (simp <;> omega) | simp)) | (refine Below.alloc ?_ (by first | omega | (simp <;> omega) | simp) _) | (apply below_drewN) | (apply below_drew) | (refine Below.setCell ?_ (by first | omega | (simp <;> omega) | simp) _)))
      have hsW := hBW.size
      clear c1 c2 c3 HR HT
      obtain h1 | h1 | h1 : M = 0 ∨ M = 1 ∨ 1 < M := by omega
      · subst h1
        obtain rfl : b = false := by
          cases b
          · rfl
          · have := HV.out.2.1.2 rfl; omega
        clear HV
        go_wp2_with ((go_at_call 18; (with_reducible refine ((c4 _ ?_).out).mono ?_); (focus ((exact HW.out.below (by repeat (first | assumption | exact Below.refl _ _ | (refine below_chain ?_ (by assumption) (by first | omega | (simp <;> omega) | simp)) | (refine Below.alloc ?_ (by first | omega | (simp <;> omega) | simp) _) | (apply below_drewN) | (apply below_drew) | (refine Below.setCell ?_ (by first | omega | (simp <;> omega) | simp) _)))); done)); rintro e wx ⟨rfl, hb_wx⟩; have hs_wx := hb_wx.size; (try simp at hs_wx)))
        go_ret
        exact ⟨rfl, (by repeat (first | assumption | exact Below.refl _ _ | (refine below_chain ?_ (by assumption) (by first | omega | (simp <;> omega) | simp)) | (refine Below.alloc ?_ (by first | omega | (simp <;> omega) | simp) _) | (apply below_drewN) | (apply below_drew) | (refine Below.setCell ?_ (by first | omega | (simp <;> omega) | simp) _)))⟩
      · subst h1
        obtain rfl : b = true := HV.out.2.1.1 (by omega)
        clear HV
        go_wp2_with ((go_at_call 18; (with_reducible refine ((c4 _ ?_).out).mono ?_); (focus ((exact HW.out.below (by repeat (first | assumption | exact Below.refl _ _ | (refine below_chain ?_ (by assumption) (by first | omega | (simp <;> omega) | simp)) | (refine Below.alloc ?_ (by first | omega | (simp <;> omega) | simp) _) | (apply below_drewN) | (apply below_drew) | (refine Below.setCell ?_ (by first | omega | (simp <;> omega) | simp) _)))); done)); rintro e wx ⟨rfl, hb_wx⟩; have hs_wx := hb_wx.size; (try simp at hs_wx)))
        go_ret
        exact ⟨rfl, (by repeat (first | assumption | exact Below.refl _ _ | (refine below_chain ?_ (by assumption) (by first | omega | (simp <;> omega) | simp)) | (refine Below.alloc ?_ (by first | omega | (simp <;> omega) | simp) _) | (apply below_drewN) | (apply below_drew) | (refine Below.setCell ?_ (by first | omega | (simp <;> omega) | simp) _)))⟩
      · obtain rfl : b = true := HV.out.2.1.1 (by omega)
        have hv0 : 0 < v := HV.out.2.2 h1
        have hM0 : (0 : Int) < (M : Int) := by omega
        have hM1 : ¬ (M : Int) = 1 := by omega
        clear HV
        go_wp2_with (first | (go_at_call 18; (with_reducible refine ((c4 _ ?_).out).mono ?_); (focus ((exact HW.out); done)); rintro e wx ⟨rfl, hb_wx⟩; have hs_wx := hb_wx.size; (try simp at hs_wx)) | (go_at_call 18; (with_reducible refine ((c4 _ ?_).out).mono ?_); (focus ((exact HW.out.below hb_wx); done)); rintro e wy ⟨rfl, hb_wy⟩; have hs_wy := hb_wy.size; (try simp at hs_wy)) | (go_at_call 17; (with_reducible refine ((c5 _ ?_).out).mono ?_); (focus ((exact (HW.out.below hb_wx).below hb_wy); done)); rintro e wz ⟨rfl, hb_wz⟩; have hs_wz := hb_wz.size; (try simp at hs_wz)))
        go_ret
        exact ⟨ret_bool (by simp [hM0, hv0]), (by repeat (first | assumption | exact Below.refl _ _ | (refine below_chain ?_ (by assumption) (by first | omega | (simp <;> omega) | simp)) | (refine Below.alloc ?_ (by first | omega | (simp <;> omega) | simp) _) | (apply below_drewN) | (apply below_drew) | (refine Below.setCell ?_ (by first | omega | (simp <;> omega) | simp) _)))⟩
    · obtain ⟨K, rfl⟩ : ∃ K, m = K + 1 := ⟨m - 1, by omega⟩
      rw [Nat.add_sub_cancel] at c3 HT
      have hKc : K ≤ c := by omega
      have hP' := hP (by omega)
      have hMg : ¬ (M : Int) < (M' : Int) := by have := HV.out.1; omega
      go_upto_region 10 with (first | (go_at_call 24; (with_reducible refine ((c1 _ ?_).out).mono ?_); (focus ((exact HR.out); done)); rintro e wi ⟨rfl, hb_wi⟩; have hs_wi := hb_wi.size; (try simp at hs_wi)) | (go_at_call 25; (with_reducible refine ((c2 _ ?_).out).mono ?_); (focus ((exact HR.out.below hb_wi); done)); rintro e ws ⟨rfl, hb_ws⟩; have hs_ws := hb_ws.size; (try simp at hs_ws)) | (go_at_call 24; (with_reducible refine ((c3 _ ?_).out).mono ?_); (focus ((exact (HT.out.below hb_wi).below hb_ws); done)); rintro e wt ⟨rfl, hb_wt⟩; have hs_wt := hb_wt.size; (try simp at hs_wt)))
      have HW := Lib.hid (HR.out.below (w' := wt) (by repeat (first | assumption | exact Below.refl _ _ | (refine below_chain ?_ (by assumption) (by first | omega | (simp <;> omega) | simp)) | (refine Below.alloc ?_ (by first | omega | (simp <;> omega) | simp) _) | (apply below_drewN) | (apply below_drew) | (refine Below.setCell ?_ (by first | omega | (simp <;> omega) | simp) _))))
      have hBW : Below w.heap.size w wt := (by repeat (first | assumption | exact Below.refl _ _ | (refine below_chain ?_ (by assumption) (by first | omega | (simp <;> omega) | simp)) | (refine Below.alloc ?_ (by first | omega | (simp <;> omega) | simp) _) | (apply below_drewN) | (apply below_drew) | (refine Below.setCell ?_ (by first | omega | (simp <;> omega) | simp) _)))
      have hsW := hBW.size
      clear c1 c2 c3 HR HT
      obtain h1 | h1 | h1 : M = 0 ∨ M = 1 ∨ 1 < M := by omega
      · subst h1
        obtain rfl : b = false := by
          cases b
          · rfl
          · have := HV.out.2.1.2 rfl; omega
        clear HV
        go_wp2_with ((go_at_call 18; (with_reducible refine ((c4 _ ?_).out).mono ?_); (focus ((exact HW.out.below (by repeat (first | assumption | exact Below.refl _ _ | (refine below_chain ?_ (by assumption) (by first | omega | (simp <;> omega) | simp)) | (refine Below.alloc ?_ (by first | omega | (simp <;> omega) | simp) _) | (apply below_drewN) | (apply below_drew) | (refine Below.setCell ?_ (by first | omega | (simp <;> omega) | simp) _)))); done)); rintro e wx ⟨rfl, hb_wx⟩; have hs_wx := hb_wx.size; (try simp at hs_wx)))
        go_ret
        exact ⟨rfl, (by repeat (first | assumption | exact Below.refl _ _ | (refine below_chain ?_ (by assumption) (by first | omega | (simp <;> omega) | simp)) | (refine Below.alloc ?_ (by first | omega | (simp <;> omega) | simp) _) | (apply below_drewN) | (apply below_drew) | (refine Below.setCell ?_ (by first | omega | (simp <;> omega) | simp) _)))⟩
      · subst h1
        obtain rfl : b = true := HV.out.2.1.1 (by omega)
        clear HV
        go_wp2_with ((go_at_call 18; (with_reducible refine ((c4 _ ?_).out).mono ?_); (focus ((exact HW.out.below (by repeat (first | assumption | exact Below.refl _ _ | (refine below_chain ?_ (by assumption) (by first | omega | (simp <;> omega) | simp)) | (refine Below.alloc ?_ (by first | omega | (simp <;> omega) | simp) _) | (apply below_drewN) | (apply below_drew) | (refine Below.setCell ?_ (by first | omega | (simp <;> omega) | simp) _)))); done)); rintro e wx ⟨rfl, hb_wx⟩; have hs_wx := hb_wx.size; (try simp at hs_wx)))
        go_ret
        exact ⟨rfl, (by repeat (first | assumption | exact Below.refl _ _ | (refine below_chain ?_ (by assumption) (by first | omega | (simp <;> omega) | simp)) | (refine Below.alloc ?_ (by first | omega | (simp <;> omega) | simp) _) | (apply below_drewN) | (apply below_drew) | (refine Below.setCell ?_ (by first | omega | (simp <;> omega) | simp) _)))⟩
      · obtain rfl : b = true := HV.out.2.1.1 (by omega)
        have hv0 : 0 < v := HV.out.2.2 h1
        have hM0 : (0 : Int) < (M : Int) := by omega
        have hM1 : ¬ (M : Int) = 1 := by omega
        clear HV
        go_wp2_with (first | (go_at_call 18; (with_reducible refine ((c4 _ ?_).out).mono ?_); (focus ((exact HW.out); done)); rintro e wx ⟨rfl, hb_wx⟩; have hs_wx := hb_wx.size; (try simp at hs_wx)) | (go_at_call 18; (with_reducible refine ((c4 _ ?_).out).mono ?_); (focus ((exact HW.out.below hb_wx); done)); rintro e wy ⟨rfl, hb_wy⟩; have hs_wy := hb_wy.size; (try simp at hs_wy)) | (go_at_call 17; (with_reducible refine ((c5 _ ?_).out).mono ?_); (focus ((exact (HW.out.below hb_wx).below hb_wy); done)); rintro e wz ⟨rfl, hb_wz⟩; have hs_wz := hb_wz.size; (try simp at hs_wz)))
        go_ret
        exact ⟨ret_bool (by simp [hM0, hv0]), (by repeat (first | assumption | exact Below.refl _ _ | (refine below_chain ?_ (by assumption) (by first | omega | (simp <;> omega) | simp)) | (refine Below.alloc ?_ (by first | omega | (simp <;> omega) | simp) _) | (apply below_drewN) | (apply below_drew) | (refine Below.setCell ?_ (by first | omega | (simp <;> omega) | simp) _)))⟩

set_option maxRecDepth 100000 in
theorem walk_long (len cap : Nat) (p : Option Addr) (w : World) (hl : 1048576 < len) :
    Calls Try.prog 5 #[.slice p len cap] w fun e w' => e = .returned (.bool true) ∧ Below w.heap.size w w' := by
  have hl' : (1048576 : Int) < (len : Int) := by omega
  go_enter Try.func5, Try.ntmps5
  go_wp2
  go_ret
  exact ⟨rfl, Below.refl _ _⟩

set_option maxRecDepth 100000 in
theorem lifted (os : Os) (started : os.Started) (H : Type) (enc : TypeId × Value → H) :
    ReturnsInHanded {} Try.checked os 5 .any (Rows.fnTreeManySpec.pre6 enc Try.prog Try.f5 Rows.fnTreeManyRow.domain false) (Rows.fnTreeManySpec.post enc Try.prog Try.f5 false true false false) := by
  refine returnsInHanded_of_change (C := Try.checked) own started (by kernel_rfl) Try.func5
    (ChangeSpec.witness6 (enc := enc) (C := Try.checked) false ⟨#[], #[.slice none 0 0], []⟩ 8 (by kernel_rfl) (by kernel_rfl) (by kernel_rfl) (by kernel_rfl)) ?_
  intro W base args ds gs before hval0 hW hcnd _
  have hval : ∀ (j : Nat) t v, Try.f5.params[j]? = some t → args[j]? = some v → Value.okWide Try.prog W .any base t v := hval0
  have hW' := hW
  obtain ⟨p, q, hA0, hV, rfl, hfz, hnd⟩ := hW
  have hA : DataW.TrodAll enc Try.prog W 0 (fun _ => true) true Try.f5.params.toList args.toList ds p := hA0
  rw [Try.params5] at hA hval
  obtain ⟨v0, vs0, d0, ds0, p0, q0, hargs, rfl, rfl, h0, r0⟩ := trodAll_cons hA
  obtain ⟨rfl, rfl, rfl⟩ := trodAll_nil r0
  obtain rfl : args = #[v0] := by cases args; simp_all
  obtain ⟨rfl, rfl⟩ := trodVars_none hV
  obtain ⟨a0, len0, cap0, rfl⟩ := okWide_slice Try.underlying22 (hval 0 22 v0 rfl rfl)
  have k0 := h0
  have lt0 : ∀ x ∈ p0, x.block < W.heap.size := by obtain ⟨m, hm⟩ := k0; exact DataW.trod_lt m _ _ _ hm
  obtain ⟨z0, w0⟩ : ∃ zs, IsRow .u8 W a0 len0 cap0 zs := by
    obtain ⟨fuel, hf⟩ := h0
    rcases open_ints Try.underlying22 Try.underlying5 (by kernel_rfl) hf with ⟨hcs, _⟩ | ⟨x, l, c, zs, hcs, _, hl, hm, hz, _, hcell, hwz⟩
    · simp [Value.cells] at hcs
      obtain ⟨rfl, rfl, rfl⟩ := hcs
      exact ⟨[], .inl ⟨rfl, rfl, rfl, rfl⟩⟩
    · simp [Value.cells] at hcs
      obtain ⟨rfl, rfl, rfl⟩ := hcs
      exact ⟨zs, .inr ⟨_, rfl, hl, hm, by simpa using hz, hcell, hwz⟩⟩
  clear hA0 hval0
  have hw : Calls Try.prog 5 #[.slice a0 len0 cap0] W fun e w' => e = .returned (.bool true) ∧ Below W.heap.size W w' := by
    by_cases hl : len0 ≤ 1048576
    · exact walk len0 cap0 a0 W hl (Lib.hid (code_of_row w0 hl))
    · exact walk_long len0 cap0 a0 W (by omega)
  refine hw.mono fun e W' ⟨he, bel⟩ => ?_
  subst he
  exact ⟨_, rfl, _, _, _, [], _, [], hW', trodAll_mk1 (shut_bool Try.underlying4 _), (trodAll_cons_mk (Below.trod laidOut (by kernel_rfl) (of_decide_eq_true (by kernel_rfl)) k0 bel lt0) trodAll_mk0), rfl, bel.frame _, fun h => by cases h⟩

theorem over : Rows.fnTreeManyRow.holds Try.pinned (OpenSpec.ofChange Rows.fnTreeManySpec) :=
  OpenClaim.holds_of_wide 5 Try.f5 rfl rfl rfl rfl rfl rfl rfl ⟨rfl, rfl, rfl, rfl, rfl⟩ rfl rfl rfl rfl rfl (by kernel_rfl) Try.func5 (by kernel_rfl)
    (of_decide_eq_true (by kernel_rfl)) (by unfold Func.isWrapper; first | (rw [if_pos (by decide +kernel)]; kernel_rfl) | (rw [if_neg (by decide +kernel)]; exact ⟨rfl, rfl⟩))
    (fun os started H enc _ => lifted os started H enc)

theorem proved : Rows.FnTreeManySaid := over
end Go.Proofs.Ytgbnnepbnahecaa.fnTreeMany

