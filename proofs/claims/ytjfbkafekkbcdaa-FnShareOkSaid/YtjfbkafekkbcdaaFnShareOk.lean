/-
  For every code the law FnShareOk returns true: impl.ShareOk answers as the reference model does; where it holds, all shares together are the amount, they are at least as far off as those of ShareOf, and less far than the number of lengths times their sum. No condition: every list of bytes is taken.
-/
import Derived.Test.YtjfbkafekkbcdaaSi
import Derived.Test.YtjfbkafekkbcdaaSj
import Derived.Test.YtjfbkafekkbcdaaDSz
namespace Go.Proofs.Ytjfbkafekkbcdaa.fnShareOk
open Go.ChangeShapes Go.WideShapes Go.ChangeAt Go.RowKit
set_option linter.unusedVariables false

set_option maxHeartbeats 8000000 in
set_option maxRecDepth 100000 in
theorem walk (len cap : Nat) (p : Option Addr) (w : World) (hl : len ≤ 1048576) (h : Hid (Code' w (.slice p len cap))) :
    Calls Try.prog 6 #[.slice p len cap] w fun e w' => e = .returned (.bool true) ∧ Below w.heap.size w w' := by
  have hl' : ¬ (1048576 : Int) < (len : Int) := by omega
  go_enter Try.func6, Try.ntmps6
  go_upto_region 4 with (go_at_call 21; (with_reducible refine (drawShareOk_is _ _ h).mono ?_); rintro e wd ⟨ls, X, n, P, c, Q, d, a, rfl, ⟨hXn, hQP, hwQ, oQ⟩, ⟨hln, hn6⟩, ⟨ha0, ha1⟩, hwP, ho, hb_wd⟩; have hs_wd := hb_wd.size; have HR := Lib.hid (And.intro ho.ints oQ.ints); have HM := Lib.hid (And.intro hln hXn); clear ho hln oQ hXn)
  clear h
  obtain ⟨b, hb⟩ : ∃ b, okS ls a X = b := ⟨_, rfl⟩
  have c1 := fun w h hq => Lib.hid (iShareOk n c n d (some ⟨P, 0, none⟩) (some ⟨Q, 0, none⟩) ls X a b w h hq HM.out.1 HM.out.2 (by omega) (by omega) hb)
  have c2 := fun w h hq => Lib.hid (sShareOk n c n d (some ⟨P, 0, none⟩) (some ⟨Q, 0, none⟩) ls X a b w h hq HM.out.1 HM.out.2 (by omega) (by omega) hb)
  cases b
  · clear hb
    go_wp2_with (first | (go_at_call 19; (with_reducible refine ((c1 _ ?_ ?_).out).mono ?_); (focus ((exact HR.out.1); done)); (focus ((exact HR.out.2); done)); rintro e wi ⟨rfl, hb_wi⟩; have hs_wi := hb_wi.size; (try simp at hs_wi)) | (go_at_call 22; (with_reducible refine ((c2 _ ?_ ?_).out).mono ?_); (focus ((exact HR.out.1.below hb_wi); done)); (focus ((exact HR.out.2.below hb_wi); done)); rintro e ws ⟨rfl, hb_ws⟩; have hs_ws := hb_ws.size; (try simp at hs_ws)))
    go_ret
    exact ⟨rfl, (by repeat (first | assumption | exact Below.refl _ _ | (refine below_chain ?_ (by assumption) (by first | omega | (simp <;> omega) | simp)) | (refine Below.alloc ?_ (by first | omega | (simp <;> omega) | simp) _) | (apply below_drewN) | (apply below_drew) | (refine Below.setCell ?_ (by first | omega | (simp <;> omega) | simp) _)))⟩
  · obtain ⟨ham, hrg, hf1, hs⟩ := okS_true.1 hb
    obtain ⟨hlo, a0, a1⟩ := amtOk_true.1 ham
    obtain ⟨f1, f2⟩ := far_least hb
    obtain ⟨S, hS⟩ : ∃ S, tot ls = S := ⟨_, rfl⟩
    obtain ⟨F, hF⟩ : ∃ F, farL ls a X = F := ⟨_, rfl⟩
    obtain ⟨G, hG⟩ : ∃ G, farL ls a (shr ls a) = G := ⟨_, rfl⟩
    have S0 : 0 < S := by have := pos_of hlo; omega
    have S1 : S ≤ 200000 := by have := tot_most hlo; omega
    have c3 := fun w h => Lib.hid (iShareOf_yes n c (some ⟨P, 0, none⟩) ls a w h HM.out.1 ham)
    have c4 := fun w h hq => Lib.hid (iShareFar n c n d (some ⟨P, 0, none⟩) (some ⟨Q, 0, none⟩) ls X a F w h hq HM.out.1 HM.out.2 (by omega) (by omega) (farS_val ham hrg hF))
    have c5 := fun (q : Option Addr) (e : Nat) w h hq => Lib.hid (iShareFar n c n e (some ⟨P, 0, none⟩) q ls (shr ls a) a G w h hq HM.out.1 (by rw [shr_len]; exact HM.out.1) (by omega) (by omega) (farS_val ham (shr_rng ham) hG))
    have c6 := fun w h => Lib.hid (lSum n c (some ⟨P, 0, none⟩) ls w h HM.out.1 (by omega) (fun z hz => by have := (lenOk_true.1 hlo).2.2.1 z hz; omega))
    have c7 := fun w h => Lib.hid (lSum n d (some ⟨Q, 0, none⟩) X w h HM.out.2 (by omega) (fun z hz => by have := hrg.2 z hz; omega))
    rw [hS] at c6
    rw [hs] at c7
    rw [hF, hG] at f1
    rw [hF, hS, HM.out.1] at f2
    obtain ⟨T, hT⟩ : ∃ T, (n : Int) * S = T := ⟨_, rfl⟩
    have hT0 : F < T := by rw [← hT, Int.mul_comm]; exact f2
    have hF0 : 0 ≤ F := by rw [← hF]; exact farL_nonneg
    have hT1 : (n : Int) * S ≤ 1200000 := by
      have := Int.mul_le_mul (show (n : Int) ≤ 6 by omega) S1 (by omega) (by omega)
      omega
    have hT2 : 0 ≤ (n : Int) * S := by omega
    have hFG : ¬ F < G := by omega
    have hFT : F < (n : Int) * S := by omega
    clear hb ham hrg hf1 hs hlo hS hF hG hT f2
    go_wp2_with (first | (go_at_call 19; (with_reducible refine ((c1 _ ?_ ?_).out).mono ?_); (focus ((exact HR.out.1); done)); (focus ((exact HR.out.2); done)); rintro e wi ⟨rfl, hb_wi⟩; have hs_wi := hb_wi.size; (try simp at hs_wi)) | (go_at_call 22; (with_reducible refine ((c2 _ ?_ ?_).out).mono ?_); (focus ((exact HR.out.1.below hb_wi); done)); (focus ((exact HR.out.2.below hb_wi); done)); rintro e ws ⟨rfl, hb_ws⟩; have hs_ws := hb_ws.size; (try simp at hs_ws)) | ((go_at_call 15; (with_reducible refine ((c3 _ ?_).out).mono ?_); (focus ((exact HR.out.1.below (by repeat (first | assumption | exact Below.refl _ _ | (refine below_chain ?_ (by assumption) (by first | omega | (simp <;> omega) | simp)) | (refine Below.alloc ?_ (by first | omega | (simp <;> omega) | simp) _) | (apply below_drewN) | (apply below_drew) | (refine Below.setCell ?_ (by first | omega | (simp <;> omega) | simp) _)))); done)); rintro e wx ⟨gx, cx, rfl, hgx, ox, hb_wx⟩; have hs_wx := hb_wx.size; (try simp at hs_wx)); have OX := Lib.hid ox; clear ox) | (go_at_call 20; (with_reducible refine ((c4 _ ?_ ?_).out).mono ?_); (focus ((exact HR.out.1.below (by repeat (first | assumption | exact Below.refl _ _ | (refine below_chain ?_ (by assumption) (by first | omega | (simp <;> omega) | simp)) | (refine Below.alloc ?_ (by first | omega | (simp <;> omega) | simp) _) | (apply below_drewN) | (apply below_drew) | (refine Below.setCell ?_ (by first | omega | (simp <;> omega) | simp) _)))); done)); (focus ((exact HR.out.2.below (by repeat (first | assumption | exact Below.refl _ _ | (refine below_chain ?_ (by assumption) (by first | omega | (simp <;> omega) | simp)) | (refine Below.alloc ?_ (by first | omega | (simp <;> omega) | simp) _) | (apply below_drewN) | (apply below_drew) | (refine Below.setCell ?_ (by first | omega | (simp <;> omega) | simp) _)))); done)); rintro e wf ⟨rfl, hb_wf⟩; have hs_wf := hb_wf.size; (try simp at hs_wf)) | (go_at_call 18; (with_reducible refine ((c7 _ ?_).out).mono ?_); (focus (exact HR.out.2.below (by repeat (first | assumption | exact Below.refl _ _ | (refine below_chain ?_ (by assumption) (by first | omega | (simp <;> omega) | simp)) | (refine Below.alloc ?_ (by first | omega | (simp <;> omega) | simp) _) | (apply below_drewN) | (apply below_drew) | (refine Below.setCell ?_ (by first | omega | (simp <;> omega) | simp) _))); done)); rintro e w' ⟨rfl, rfl⟩) | (go_at_call 20; (with_reducible refine ((c5 _ _ _ ?_ ?_).out).mono ?_); (focus ((exact HR.out.1.below (by repeat (first | assumption | exact Below.refl _ _ | (refine below_chain ?_ (by assumption) (by first | omega | (simp <;> omega) | simp)) | (refine Below.alloc ?_ (by first | omega | (simp <;> omega) | simp) _) | (apply below_drewN) | (apply below_drew) | (refine Below.setCell ?_ (by first | omega | (simp <;> omega) | simp) _)))); done)); (focus ((exact (OX.out.below (by repeat (first | assumption | exact Below.refl _ _ | (refine below_chain ?_ (by assumption) (by first | omega | (simp <;> omega) | simp)) | (refine Below.alloc ?_ (by first | omega | (simp <;> omega) | simp) _) | (apply below_drewN) | (apply below_drew) | (refine Below.setCell ?_ (by first | omega | (simp <;> omega) | simp) _)))).ints); done)); rintro e wh ⟨rfl, hb_wh⟩; have hs_wh := hb_wh.size; (try simp at hs_wh)) | (go_at_call 18; (with_reducible refine ((c6 _ ?_).out).mono ?_); (focus (exact HR.out.1.below (by repeat (first | assumption | exact Below.refl _ _ | (refine below_chain ?_ (by assumption) (by first | omega | (simp <;> omega) | simp)) | (refine Below.alloc ?_ (by first | omega | (simp <;> omega) | simp) _) | (apply below_drewN) | (apply below_drew) | (refine Below.setCell ?_ (by first | omega | (simp <;> omega) | simp) _))); done)); rintro e w' ⟨rfl, rfl⟩))
    go_ret
    exact ⟨rfl, (by repeat (first | assumption | exact Below.refl _ _ | (refine below_chain ?_ (by assumption) (by first | omega | (simp <;> omega) | simp)) | (refine Below.alloc ?_ (by first | omega | (simp <;> omega) | simp) _) | (apply below_drewN) | (apply below_drew) | (refine Below.setCell ?_ (by first | omega | (simp <;> omega) | simp) _)))⟩

set_option maxRecDepth 100000 in
theorem walk_long (len cap : Nat) (p : Option Addr) (w : World) (hl : 1048576 < len) :
    Calls Try.prog 6 #[.slice p len cap] w fun e w' => e = .returned (.bool true) ∧ Below w.heap.size w w' := by
  have hl' : (1048576 : Int) < (len : Int) := by omega
  go_enter Try.func6, Try.ntmps6
  go_wp2
  go_ret
  exact ⟨rfl, Below.refl _ _⟩

set_option maxRecDepth 100000 in
theorem lifted (os : Os) (started : os.Started) (H : Type) (enc : TypeId × Value → H) :
    ReturnsInHanded {} Try.checked os 6 .any (Rows.fnShareOkSpec.pre6 enc Try.prog Try.f6 Rows.fnShareOkRow.domain false) (Rows.fnShareOkSpec.post enc Try.prog Try.f6 false true false false) := by
  refine returnsInHanded_of_change (C := Try.checked) own started (by kernel_rfl) Try.func6
    (ChangeSpec.witness6 (enc := enc) (C := Try.checked) false ⟨#[], #[.slice none 0 0], []⟩ 8 (by kernel_rfl) (by kernel_rfl) (by kernel_rfl) (by kernel_rfl)) ?_
  intro W base args ds gs before hval0 hW hcnd _
  have hval : ∀ (j : Nat) t v, Try.f6.params[j]? = some t → args[j]? = some v → Value.okWide Try.prog W .any base t v := hval0
  have hW' := hW
  obtain ⟨p, q, hA0, hV, rfl, hfz, hnd⟩ := hW
  have hA : DataW.TrodAll enc Try.prog W 0 (fun _ => true) true Try.f6.params.toList args.toList ds p := hA0
  rw [Try.params6] at hA hval
  obtain ⟨v0, vs0, d0, ds0, p0, q0, hargs, rfl, rfl, h0, r0⟩ := trodAll_cons hA
  obtain ⟨rfl, rfl, rfl⟩ := trodAll_nil r0
  obtain rfl : args = #[v0] := by cases args; simp_all
  obtain ⟨rfl, rfl⟩ := trodVars_none hV
  obtain ⟨a0, len0, cap0, rfl⟩ := okWide_slice Try.underlying22 (hval 0 22 v0 rfl rfl)
  have k0 := h0
  have lt0 : ∀ x ∈ p0, x.block < W.heap.size := by obtain ⟨m, hm⟩ := k0; exact DataW.trod_lt m _ _ _ hm
  obtain ⟨z0, w0⟩ : ∃ zs, IsRow .u8 W a0 len0 cap0 zs := by
    obtain ⟨fuel, hf⟩ := h0
    rcases open_ints Try.underlying22 Try.underlying5 (by kernel_rfl) hf with ⟨hcs, _⟩ | ⟨x, l, c, zs, hcs, _, hl, hm, hz, _, hcell, hwz⟩
    · simp [Value.cells] at hcs
      obtain ⟨rfl, rfl, rfl⟩ := hcs
      exact ⟨[], .inl ⟨rfl, rfl, rfl, rfl⟩⟩
    · simp [Value.cells] at hcs
      obtain ⟨rfl, rfl, rfl⟩ := hcs
      exact ⟨zs, .inr ⟨_, rfl, hl, hm, by simpa using hz, hcell, hwz⟩⟩
  clear hA0 hval0
  have hw : Calls Try.prog 6 #[.slice a0 len0 cap0] W fun e w' => e = .returned (.bool true) ∧ Below W.heap.size W w' := by
    by_cases hl : len0 ≤ 1048576
    · exact walk len0 cap0 a0 W hl (Lib.hid (code_of_row w0 hl))
    · exact walk_long len0 cap0 a0 W (by omega)
  refine hw.mono fun e W' ⟨he, bel⟩ => ?_
  subst he
  exact ⟨_, rfl, _, _, _, [], _, [], hW', trodAll_mk1 (shut_bool Try.underlying4 _), (trodAll_cons_mk (Below.trod laidOut (by kernel_rfl) (of_decide_eq_true (by kernel_rfl)) k0 bel lt0) trodAll_mk0), rfl, bel.frame _, fun h => by cases h⟩

theorem over : Rows.fnShareOkRow.holds Try.pinned (OpenSpec.ofChange Rows.fnShareOkSpec) :=
  OpenClaim.holds_of_wide 6 Try.f6 rfl rfl rfl rfl rfl rfl rfl ⟨rfl, rfl, rfl, rfl, rfl⟩ rfl rfl rfl rfl rfl (by kernel_rfl) Try.func6 (by kernel_rfl)
    (of_decide_eq_true (by kernel_rfl)) (by unfold Func.isWrapper; first | (rw [if_pos (by decide +kernel)]; kernel_rfl) | (rw [if_neg (by decide +kernel)]; exact ⟨rfl, rfl⟩))
    (fun os started H enc _ => lifted os started H enc)

theorem proved : Rows.FnShareOkSaid := over
end Go.Proofs.Ytjfbkafekkbcdaa.fnShareOk

