/-
  For every code the law FnShareMore returns true: impl.ShareOf answers as the reference model does; for an amount greater by the sum of all lengths, if it is in range, each share is greater by its length. No condition: every list of bytes is taken.
-/
import Derived.Test.YtjfbkafekkbcdaaSi
import Derived.Test.YtjfbkafekkbcdaaSj
import Derived.Test.YtjfbkafekkbcdaaDSz
namespace Go.Proofs.Ytjfbkafekkbcdaa.fnShareMore
open Go.ChangeShapes Go.WideShapes Go.ChangeAt Go.RowKit
set_option linter.unusedVariables false

set_option maxHeartbeats 8000000 in
set_option maxRecDepth 100000 in
theorem walk (len cap : Nat) (p : Option Addr) (w : World) (hl : len ≤ 1048576) (h : Hid (Code' w (.slice p len cap))) :
    Calls Try.prog 5 #[.slice p len cap] w fun e w' => e = .returned (.bool true) ∧ Below w.heap.size w w' := by
  have hl' : ¬ (1048576 : Int) < (len : Int) := by omega
  go_enter Try.func5, Try.ntmps5
  go_upto_region 4 with (go_at_call 14; (with_reducible refine (drawShareOf_is _ _ h).mono ?_); rintro e wd ⟨ls, n, P, c, a, rfl, ⟨hln, hn6⟩, ⟨ha0, ha1⟩, hwP, ho, hb_wd⟩; have hs_wd := hb_wd.size; have HR := Lib.hid ho; have HM := Lib.hid hln; have hPl := ho.lt; clear ho hln)
  clear h
  obtain ⟨b, hb⟩ : ∃ b, amtOk ls a = b := ⟨_, rfl⟩
  cases b
  · have c1 := fun w h => Lib.hid (iShareOf_no n c (some ⟨P, 0, none⟩) ls a w h HM.out (by omega) hb)
    have c2 := fun w h => Lib.hid (sShareOf_no n c (some ⟨P, 0, none⟩) ls a w h HM.out (by omega) hb)
    clear hb
    go_wp2_with (first | (go_at_call 15; (with_reducible refine ((c1 _ ?_).out).mono ?_); (focus ((exact HR.out.ints); done)); rintro e wi ⟨⟨q, d, rfl⟩, hb_wi⟩; have hs_wi := hb_wi.size; (try simp at hs_wi)) | (go_at_call 16; (with_reducible refine ((c2 _ ?_).out).mono ?_); (focus ((exact HR.out.ints.below hb_wi); done)); rintro e ws ⟨⟨g, rfl⟩, hb_ws⟩; have hs_ws := hb_ws.size; (try simp at hs_ws)) | (go_at_call 17; (with_reducible refine (sameInts_nil _ _ _ _ _).mono ?_); rintro e wt ⟨rfl, hb_wt⟩; have hs_wt := hb_wt.size; (try simp at hs_wt)))
    go_ret
    exact ⟨rfl, (by repeat (first | assumption | exact Below.refl _ _ | (refine below_chain ?_ (by assumption) (by first | omega | (simp <;> omega) | simp)) | (refine Below.alloc ?_ (by first | omega | (simp <;> omega) | simp) _) | (apply below_drewN) | (apply below_drew) | (refine Below.setCell ?_ (by first | omega | (simp <;> omega) | simp) _)))⟩
  · obtain ⟨hlo, a0, a1⟩ := amtOk_true.1 hb
    have hn1 : 1 ≤ n := by have := (lenOk_true.1 hlo).1; have := HM.out; omega
    obtain ⟨S, hS⟩ : ∃ S, tot ls = S := ⟨_, rfl⟩
    have S0 : 0 < S := by have := pos_of hlo; omega
    have S1 : S ≤ 200000 := by have := tot_most hlo; omega
    have c1 := fun w h => Lib.hid (iShareOf_yes n c (some ⟨P, 0, none⟩) ls a w h HM.out hb)
    have c2 := fun w h => Lib.hid (sShareOf_yes n c (some ⟨P, 0, none⟩) ls a w h HM.out hb)
    have c3 := fun w h => Lib.hid (lSum n c (some ⟨P, 0, none⟩) ls w h HM.out (by omega) (fun z hz => by have := (lenOk_true.1 hlo).2.2.1 z hz; omega))
    rw [hS] at c3
    have HL := Lib.hid (And.intro hlo (And.intro hb (And.intro hS (show (shr ls a).length = n by rw [shr_len]; exact HM.out))))
    clear hlo hb hS
    go_upto_region 8 with (first | ((go_at_call 15; (with_reducible refine ((c1 _ ?_).out).mono ?_); (focus ((exact HR.out.ints); done)); rintro e wi ⟨g, cg, rfl, hg, og, hb_wi⟩; have hs_wi := hb_wi.size; (try simp at hs_wi)); have OG := Lib.hid og; clear og) | ((go_at_call 16; (with_reducible refine ((c2 _ ?_).out).mono ?_); (focus ((exact HR.out.ints.below hb_wi); done)); rintro e ws ⟨g2, cg2, rfl, hg2, og2, hb_ws⟩; have hs_ws := hb_ws.size; (try simp at hs_ws)); have OG2 := Lib.hid og2; clear og2) | (go_at_call 17; (with_reducible refine (sameInts_at' HL.out.2.2.2 _ _ _ _ _ ?_ ?_ (by omega)).mono ?_); (focus ((exact (OG.out.below (by repeat (first | assumption | exact Below.refl _ _ | (refine below_chain ?_ (by assumption) (by first | omega | (simp <;> omega) | simp)) | (refine Below.alloc ?_ (by first | omega | (simp <;> omega) | simp) _) | (apply below_drewN) | (apply below_drew) | (refine Below.setCell ?_ (by first | omega | (simp <;> omega) | simp) _)))).ints); done)); (focus ((exact OG2.out.ints); done)); rintro e wt ⟨rfl, hb_wt⟩; have hs_wt := hb_wt.size; (try simp at hs_wt)))
    have hBi : Below wi.heap.size wi wt := (by repeat (first | assumption | exact Below.refl _ _ | (refine below_chain ?_ (by assumption) (by first | omega | (simp <;> omega) | simp)) | (refine Below.alloc ?_ (by first | omega | (simp <;> omega) | simp) _) | (apply below_drewN) | (apply below_drew) | (refine Below.setCell ?_ (by first | omega | (simp <;> omega) | simp) _)))
    have hBd : Below wd.heap.size wd wt := (by repeat (first | assumption | exact Below.refl _ _ | (refine below_chain ?_ (by assumption) (by first | omega | (simp <;> omega) | simp)) | (refine Below.alloc ?_ (by first | omega | (simp <;> omega) | simp) _) | (apply below_drewN) | (apply below_drew) | (refine Below.setCell ?_ (by first | omega | (simp <;> omega) | simp) _)))
    have HX := Lib.hid (And.intro (HR.out.below hBd) (And.intro (OG.out.below hBi) (hb_wd.trans (hBd.mono hs_wd))))
    have hsW := HX.out.2.2.size
    have hPt := HX.out.1.lt
    have hgt := HX.out.2.1.lt
    clear hb_wd hb_wi hb_ws hb_wt hBi hBd HR OG OG2 c1 c2
    obtain ⟨v, hv⟩ : ∃ v, amtOk ls (a + S) = v := ⟨_, rfl⟩
    cases v
    · have c4 := fun w h => Lib.hid (iShareOf_no n c (some ⟨P, 0, none⟩) ls (a + S) w h HM.out (by omega) hv)
      have hbig : (10000000 : Int) < a + S := by
        refine Classical.byContradiction (fun hc => ?_)
        have : amtOk ls (a + S) = true := amtOk_true.2 ⟨HL.out.1, by omega, by omega⟩
        rw [hv] at this; cases this
      clear hv
      go_wp2_with (first | (go_at_call 18; (with_reducible refine ((c3 _ ?_).out).mono ?_); (focus (exact HX.out.1.ints; done)); rintro e w' ⟨rfl, rfl⟩) | (go_at_call 15; (with_reducible refine ((c4 _ ?_).out).mono ?_); (focus ((exact HX.out.1.ints); done)); rintro e wx ⟨⟨q, d, rfl⟩, hb_wx⟩; have hs_wx := hb_wx.size; (try simp at hs_wx)))
      go_loopw [11] (fun i wr => i = .int .i64 0 ∧ wx = wr) (fun _ _ => 0)
      case atStart => exact ⟨rfl, rfl⟩
      case round =>
        obtain ⟨rfl, rfl⟩ := hrel
        go_wp2_with (go_at_call 18; (with_reducible refine ((c3 _ ?_).out).mono ?_); (focus (exact (HX.out.1.below hb_wx).ints; done)); rintro e w' ⟨rfl, rfl⟩)
        go_ret
        exact ⟨rfl, HX.out.2.2.trans (hb_wx.mono hsW)⟩
    · have c4 := fun w h => Lib.hid (iShareOf_yes n c (some ⟨P, 0, none⟩) ls (a + S) w h HM.out hv)
      clear hv
      go_wp2_with (first | (go_at_call 18; (with_reducible refine ((c3 _ ?_).out).mono ?_); (focus (exact HX.out.1.ints; done)); rintro e w' ⟨rfl, rfl⟩) | ((go_at_call 15; (with_reducible refine ((c4 _ ?_).out).mono ?_); (focus ((exact HX.out.1.ints); done)); rintro e wx ⟨gx, cx, rfl, hgx, ox, hb_wx⟩; have hs_wx := hb_wx.size; (try simp at hs_wx)); have OX := Lib.hid ox; clear ox))
      have hxl := OX.out.lt
      have HY := Lib.hid (And.intro (HX.out.1.below hb_wx) (And.intro (HX.out.2.1.below hb_wx) (HX.out.2.2.trans (hb_wx.mono hsW))))
      have hsx := HY.out.2.2.size
      clear HX hb_wx c4
      go_loopw [11] (fun i wr => ∃ j : Nat, j ≤ n ∧ i = .int .i64 j ∧ Below wx.heap.size wx wr) (fun i _ => n - (intOf i).toNat)
      case atStart => exact ⟨0, Nat.zero_le _, rfl, Below.refl _ _⟩
      case round =>
        obtain ⟨j, hj, rfl, hbr⟩ := hrel
        have hbs := hbr.size
        have hPr : P < wr.heap.size := by omega
        have hgr : g < wr.heap.size := by omega
        have hxr : gx < wr.heap.size := by omega
        by_cases hlt : j < n
        · have hlt' : (j : Int) < (n : Int) := by omega
          obtain ⟨z, hz⟩ : ∃ z, nth ls j = z := ⟨_, rfl⟩
          obtain ⟨o, ho⟩ : ∃ o, sh ls a j = o := ⟨_, rfl⟩
          have hz' : ls[j]? = some z := by rw [← hz]; exact at_nth (by have := HM.out; omega)
          have ho' : (shr ls a)[j]? = some o := by rw [← ho, ← nth_shr (by have := HM.out; omega)]; exact at_nth (by have := HL.out.2.2.2; omega)
          have hx' : (shr ls (a + S))[j]? = some (o + z) := by rw [← ho, ← hz, ← HL.out.2.2.1, ← shr_more HL.out.1, ← nth_shr (by have := HM.out; omega)]; exact at_nth (by rw [shr_len]; have := HM.out; omega)
          have e0 := (HY.out.1.below hbr).cells hz'
          have e1 := (HY.out.2.1.below hbr).cells ho'
          have e2 := (OX.out.below hbr).cells hx'
          have hzl := nth_low HL.out.1 (i := j) (by have := HM.out; omega)
          have hol := sh_low HL.out.2.1 (i := j) (by have := HM.out; omega)
          rw [hz] at hzl
          rw [ho] at hol
          obtain ⟨z0, z1⟩ := hzl
          obtain ⟨o0, o1⟩ := hol
          have HZ := Lib.hid hbr
          clear hz ho hz' ho' hx' hbr
          go_wp2_with fail
          (refine wp_region_grows (by kernel_rfl) (by kernel_rfl) ?_; intro W_wg hWc_wg hWs_wg hWe_wg; (repeat (go_big_quiet_step (fail))); with_reducible refine wpQuiet_nil ?_; clear hWe_wg hWs_wg hWc_wg W_wg; intro wg hb_wg; obtain ⟨hc_wg, hf_wg⟩ := bcell hb_wg; (try simp only [World.size_drew, World.cell?_drew, World.frozen?_drew, World.heap_drewN, World.cell?_drewN, World.frozen?_drewN] at hc_wg hf_wg); have hs_wg := hb_wg.size; (try simp at hs_wg))
          go_wp2_with fail
          go_roundw
          case rel => exact ⟨j + 1, by omega, by go_num, HZ.out.trans (hb_wg.mono hbs)⟩
          case measure => simp [intOf]; omega
        · have e : j = n := by omega
          subst e
          have HZ := Lib.hid hbr
          clear hbr hlt
          go_wp2_with fail
          go_ret
          exact ⟨rfl, HY.out.2.2.trans (HZ.out.mono hsx)⟩

set_option maxRecDepth 100000 in
theorem walk_long (len cap : Nat) (p : Option Addr) (w : World) (hl : 1048576 < len) :
    Calls Try.prog 5 #[.slice p len cap] w fun e w' => e = .returned (.bool true) ∧ Below w.heap.size w w' := by
  have hl' : (1048576 : Int) < (len : Int) := by omega
  go_enter Try.func5, Try.ntmps5
  go_wp2
  go_ret
  exact ⟨rfl, Below.refl _ _⟩

set_option maxRecDepth 100000 in
theorem lifted (os : Os) (started : os.Started) (H : Type) (enc : TypeId × Value → H) :
    ReturnsInHanded {} Try.checked os 5 .any (Rows.fnShareMoreSpec.pre6 enc Try.prog Try.f5 Rows.fnShareMoreRow.domain false) (Rows.fnShareMoreSpec.post enc Try.prog Try.f5 false true false false) := by
  refine returnsInHanded_of_change (C := Try.checked) own started (by kernel_rfl) Try.func5
    (ChangeSpec.witness6 (enc := enc) (C := Try.checked) false ⟨#[], #[.slice none 0 0], []⟩ 8 (by kernel_rfl) (by kernel_rfl) (by kernel_rfl) (by kernel_rfl)) ?_
  intro W base args ds gs before hval0 hW hcnd _
  have hval : ∀ (j : Nat) t v, Try.f5.params[j]? = some t → args[j]? = some v → Value.okWide Try.prog W .any base t v := hval0
  have hW' := hW
  obtain ⟨p, q, hA0, hV, rfl, hfz, hnd⟩ := hW
  have hA : DataW.TrodAll enc Try.prog W 0 (fun _ => true) true Try.f5.params.toList args.toList ds p := hA0
  rw [Try.params5] at hA hval
  obtain ⟨v0, vs0, d0, ds0, p0, q0, hargs, rfl, rfl, h0, r0⟩ := trodAll_cons hA
  obtain ⟨rfl, rfl, rfl⟩ := trodAll_nil r0
  obtain rfl : args = #[v0] := by cases args; simp_all
  obtain ⟨rfl, rfl⟩ := trodVars_none hV
  obtain ⟨a0, len0, cap0, rfl⟩ := okWide_slice Try.underlying22 (hval 0 22 v0 rfl rfl)
  have k0 := h0
  have lt0 : ∀ x ∈ p0, x.block < W.heap.size := by obtain ⟨m, hm⟩ := k0; exact DataW.trod_lt m _ _ _ hm
  obtain ⟨z0, w0⟩ : ∃ zs, IsRow .u8 W a0 len0 cap0 zs := by
    obtain ⟨fuel, hf⟩ := h0
    rcases open_ints Try.underlying22 Try.underlying5 (by kernel_rfl) hf with ⟨hcs, _⟩ | ⟨x, l, c, zs, hcs, _, hl, hm, hz, _, hcell, hwz⟩
    · simp [Value.cells] at hcs
      obtain ⟨rfl, rfl, rfl⟩ := hcs
      exact ⟨[], .inl ⟨rfl, rfl, rfl, rfl⟩⟩
    · simp [Value.cells] at hcs
      obtain ⟨rfl, rfl, rfl⟩ := hcs
      exact ⟨zs, .inr ⟨_, rfl, hl, hm, by simpa using hz, hcell, hwz⟩⟩
  clear hA0 hval0
  have hw : Calls Try.prog 5 #[.slice a0 len0 cap0] W fun e w' => e = .returned (.bool true) ∧ Below W.heap.size W w' := by
    by_cases hl : len0 ≤ 1048576
    · exact walk len0 cap0 a0 W hl (Lib.hid (code_of_row w0 hl))
    · exact walk_long len0 cap0 a0 W (by omega)
  refine hw.mono fun e W' ⟨he, bel⟩ => ?_
  subst he
  exact ⟨_, rfl, _, _, _, [], _, [], hW', trodAll_mk1 (shut_bool Try.underlying4 _), (trodAll_cons_mk (Below.trod laidOut (by kernel_rfl) (of_decide_eq_true (by kernel_rfl)) k0 bel lt0) trodAll_mk0), rfl, bel.frame _, fun h => by cases h⟩

theorem over : Rows.fnShareMoreRow.holds Try.pinned (OpenSpec.ofChange Rows.fnShareMoreSpec) :=
  OpenClaim.holds_of_wide 5 Try.f5 rfl rfl rfl rfl rfl rfl rfl ⟨rfl, rfl, rfl, rfl, rfl⟩ rfl rfl rfl rfl rfl (by kernel_rfl) Try.func5 (by kernel_rfl)
    (of_decide_eq_true (by kernel_rfl)) (by unfold Func.isWrapper; first | (rw [if_pos (by decide +kernel)]; kernel_rfl) | (rw [if_neg (by decide +kernel)]; exact ⟨rfl, rfl⟩))
    (fun os started H enc _ => lifted os started H enc)

theorem proved : Rows.FnShareMoreSaid := over
end Go.Proofs.Ytjfbkafekkbcdaa.fnShareMore

