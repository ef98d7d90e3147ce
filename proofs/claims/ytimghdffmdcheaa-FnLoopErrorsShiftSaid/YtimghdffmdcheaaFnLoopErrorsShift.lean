/-
  For every two codes the law FnLoopErrorsShift returns true: impl.LoopErrors answers as the reference model does; with the rises of any heights added to all rises, where the net stays valid, it answers the same. No condition: every two lists of bytes are taken.
-/
import Derived.Test.YtimghdffmdcheaaLv
import Derived.Test.YtimghdffmdcheaaDNj
import Derived.Test.YtimghdffmdcheaaCode
namespace Go.Proofs.Ytimghdffmdcheaa.fnLoopErrorsShift
open Go.ChangeShapes Go.WideShapes Go.ChangeAt Go.RowKit
set_option linter.unusedVariables false

/-- the first k runs changed -/
def mapL (g : Rn → Rn) (k : Nat) (rs : List Rn) : List Rn := (rs.take k).map g ++ rs.drop k
theorem mapL_zero (g : Rn → Rn) (rs : List Rn) : mapL g 0 rs = rs := by simp [mapL]
theorem mapL_all (g : Rn → Rn) (rs : List Rn) : mapL g rs.length rs = rs.map g := by simp [mapL]
theorem mapL_at {g : Rn → Rn} {k : Nat} {rs : List Rn} {r : Rn} (h : rs[k]? = some r) : (mapL g k rs)[k]? = some r := by
  have hlt := (List.getElem?_eq_some_iff.1 h).1
  unfold mapL
  rw [List.getElem?_append_right (by simp; omega)]
  simp
  rw [show min k rs.length = k by omega, Nat.sub_self, Nat.add_zero]; exact h
theorem mapL_set {g : Rn → Rn} {k : Nat} {rs : List Rn} {r : Rn} (h : rs[k]? = some r) : (mapL g k rs).set k (g r) = mapL g (k + 1) rs := by
  have hlt := (List.getElem?_eq_some_iff.1 h).1
  have e0 : rs.drop k = r :: rs.drop (k + 1) := by
    rw [List.drop_eq_getElem_cons hlt]
    congr 1
    rw [List.getElem?_eq_getElem hlt] at h; exact Option.some.inj h
  unfold mapL
  rw [List.set_append_right _ _ (by simp; omega), e0, show k - ((rs.take k).map g).length = 0 by simp; omega, List.set_cons_zero, List.take_add_one, h]
  simp
/-- the rise of heights added to a run's rise -/
def shiftOne (hs : List Int) (r : Rn) : Rn := ⟨r.f, r.t, r.s + htAt hs r.t - htAt hs r.f, r.g⟩

set_option maxHeartbeats 8000000 in
set_option maxRecDepth 100000 in
theorem walk (len cap : Nat) (p : Option Addr) (len2 cap2 : Nat) (p2 : Option Addr) (w : World) (hl : len ≤ 1048576) (hl2 : len2 ≤ 1048576) (h : Hid (Code' w (.slice p len cap))) (h2 : Hid (Code' w (.slice p2 len2 cap2))) :
    Calls Try.prog 8 #[.slice p len cap, .slice p2 len2 cap2] w fun e w' => e = .returned (.bool true) ∧ Below w.heap.size w w' := by
  have hl' : ¬ (1048576 : Int) < (len : Int) := by omega
  have hl2' : ¬ (1048576 : Int) < (len2 : Int) := by omega
  have hl2'' : len2 ≤ 1048576 := hl2
  clear h2
  go_enter Try.func8, Try.ntmps8
  go_upto_region 4 with (go_at_call 30; (with_reducible refine (drawErrors_is _ _ h).mono ?_); rintro e wd ⟨N, m, rs, P, ⟨c, hmc, rfl⟩, ⟨hmm, ⟨hN2, hN6⟩, hm8, hns⟩, hR, hb_wd⟩; have hs_wd := hb_wd.size; have HR := Lib.hid hR; have HM := Lib.hid (And.intro hmm hns); clear hR hmm hns)
  clear h
  cases hw : nWhole N rs with
  | false =>
    have c1 := fun w h => Lib.hid (iErrors_no N m (some ⟨P, 0, none⟩) c rs w h HM.out.1 (by omega) hw)
    have c2 := fun w h => Lib.hid (sErrors_no N m (some ⟨P, 0, none⟩) c rs w h HM.out.1 (by omega) hw)
    clear hw
    go_wp2_with (first | (go_at_call 31; (with_reducible refine ((c1 _ ?_).out).mono ?_); (focus ((exact HR.out); done)); rintro e wi ⟨rfl, hb_wi⟩; have hs_wi := hb_wi.size; (try simp at hs_wi)) | (go_at_call 32; (with_reducible refine ((c2 _ ?_).out).mono ?_); (focus ((exact HR.out.below hb_wi); done)); rintro e ws ⟨⟨g, rfl⟩, hb_ws⟩; have hs_ws := hb_ws.size; (try simp at hs_ws)) | (go_at_call 24; (with_reducible refine (sameInts_nil _ _ _ _ _).mono ?_); rintro e wt ⟨rfl, hb_wt⟩; have hs_wt := hb_wt.size; (try simp at hs_wt)))
    go_ret
    exact ⟨rfl, (by repeat (first | assumption | exact Below.refl _ _ | (refine below_chain ?_ (by assumption) (by first | omega | (simp <;> omega) | simp)) | (refine Below.alloc ?_ (by first | omega | (simp <;> omega) | simp) _) | (apply below_drewN) | (apply below_drew) | (refine Below.setCell ?_ (by first | omega | (simp <;> omega) | simp) _)))⟩
  | true =>
    obtain ⟨l, hle⟩ : ∃ l, (errs N rs).length = l := ⟨_, rfl⟩
    have hl12 : l ≤ 12 := by
      have := errsTo_len12 (N := N) (rs := rs) rs.length
      have := HM.out.1
      unfold errs at hle; omega
    have c1 := fun w h => Lib.hid (iErrors_any N m (some ⟨P, 0, none⟩) c rs w h HM.out.1 hw)
    have c2 := fun w h => Lib.hid (sErrors_yes N m (some ⟨P, 0, none⟩) c rs w h HM.out.1 hw)
    have c3 := fun w => Lib.hid (some_is N len2 w (by omega) hl2'')
    rw [hle] at c1 c2
    have HZ := Lib.hid (And.intro hw hle)
    have hok : Hid (∀ r ∈ rs, (0 ≤ r.f ∧ r.f < (N : Int) ∧ 0 ≤ r.t ∧ r.t < (N : Int)) ∧ -100000 ≤ r.s ∧ r.s ≤ 100000) := Lib.hid (fun r hr => by
      obtain ⟨i, hi⟩ := List.getElem?_of_mem hr
      obtain ⟨a1, a2, a3, a4, _⟩ := rOk_true ((nOk_true (whole_ok hw)).2.2.2 i r hi)
      exact ⟨⟨a1, a2, a3, a4⟩, isL_sums (whole_ok hw) r hr⟩)
    clear hw hle
    go_upto_region 9 with (first | ((go_at_call 31; (with_reducible refine ((c1 _ ?_).out).mono ?_); (focus ((exact HR.out); done)); rintro e wi ⟨q, d, rfl, hie, hb_wi⟩; have hs_wi := hb_wi.size; (try simp at hs_wi)); have HI := Lib.hid hie; clear hie) | ((go_at_call 32; (with_reducible refine ((c2 _ ?_).out).mono ?_); (focus ((exact HR.out.below hb_wi); done)); rintro e ws ⟨gs, _, cs, rfl, rfl, hgs, os, hb_ws⟩; have hs_ws := hb_ws.size; (try simp at hs_ws)); have OS := Lib.hid os; clear os) | (go_at_call 24; (with_reducible refine (sameInts_at HZ.out.2 _ _ _ _ _ ?_ ?_ (by omega)).mono ?_); (focus ((exact HI.out.below (by repeat (first | assumption | exact Below.refl _ _ | (refine below_chain ?_ (by assumption) (by first | omega | (simp <;> omega) | simp)) | (refine Below.alloc ?_ (by first | omega | (simp <;> omega) | simp) _) | (apply below_drewN) | (apply below_drew) | (refine Below.setCell ?_ (by first | omega | (simp <;> omega) | simp) _)))); done)); (focus ((exact OS.out.ints); done)); rintro e wt ⟨rfl, hb_wt⟩; have hs_wt := hb_wt.size; (try simp at hs_wt)) | ((go_at_call 20; (with_reducible refine ((c3 _).out).mono ?_); rintro e wc ⟨g7, c7, hs7, rfl, hN7, hlow7, hg7, ho7, hb_wc⟩; have hs_wc := hb_wc.size; (try simp at hs_wc)); have HS7 := Lib.hid (And.intro hN7 (And.intro hlow7 ho7)); clear hN7 hlow7 ho7))
    have hBi : Below wi.heap.size wi wc := (by repeat (first | assumption | exact Below.refl _ _ | (refine below_chain ?_ (by assumption) (by first | omega | (simp <;> omega) | simp)) | (refine Below.alloc ?_ (by first | omega | (simp <;> omega) | simp) _) | (apply below_drewN) | (apply below_drew) | (refine Below.setCell ?_ (by first | omega | (simp <;> omega) | simp) _)))
    have hBd : Below wd.heap.size wd wc := (by repeat (first | assumption | exact Below.refl _ _ | (refine below_chain ?_ (by assumption) (by first | omega | (simp <;> omega) | simp)) | (refine Below.alloc ?_ (by first | omega | (simp <;> omega) | simp) _) | (apply below_drewN) | (apply below_drew) | (refine Below.setCell ?_ (by first | omega | (simp <;> omega) | simp) _)))
    have HB := Lib.hid (And.intro (hb_wd.trans (hBd.mono hs_wd)) (And.intro (HR.out.below hBd) (HI.out.below hBi)))
    have hsW := HB.out.1.size
    have hg7l : g7 < wc.heap.size := HS7.out.2.2.lt
    clear hb_wd hb_wi hb_ws hb_wt hb_wc hBi hBd HR HI OS c1 c2 c3
    have HF : Hid ((flat rs).length = m * 4) := Lib.hid (by rw [flat_len, HM.out.1])
    go_upto_region 10 with (at_builtin; refine wp_append _ rfl _ _ 23 rfl 42 _ 4 32 Try.underlying23 info_run rfl (by decide) (by decide) _ 0 0 [] rfl (Own.empty _ _ 4) _ _ _ (flat rs) rfl HF.out (runs_cells (HB.out.2.1.alloc _)) (by omega) ?_; intro g1 cap1 wb hown hg hloc hsz; simp only [Nat.zero_add, List.nil_append] at hown ⊢; have hg1 : wc.heap.size ≤ g1 := (by rcases hloc with rfl | rfl <;> simp); have hb_wb : Below wc.heap.size wc wb := below_gr ((Below.refl _ _).alloc (Nat.le_refl _) _) hg (Nat.le_refl _) (by simp); have hs_wb := hb_wb.size; have hlo1 := hown.lt; have HO1 := Lib.hid hown; clear hown hg hloc)
    go_wp2_with fail
    go_loopw [13] (fun i wr => ∃ k : Nat, k ≤ m ∧ i = .int .i64 k ∧ Own wr g1 42 4 m cap1 (flat (mapL (shiftOne hs7) k rs)) ∧ Below wc.heap.size wc wr) (fun i _ => m - (intOf i).toNat)
    case atStart => exact ⟨0, Nat.zero_le _, rfl, by rw [mapL_zero]; exact HO1.out, hb_wb⟩
    case round =>
      clear HO1 hb_wb hsz hs_wb hlo1
      obtain ⟨k, hk, rfl, how, hbr⟩ := hrel
      have hbs := hbr.size
      have hlo := how.lt
      have HO := Lib.hid (And.intro how hbr)
      by_cases hlt : k < m
      · obtain ⟨r, hr⟩ : ∃ r, rs[k]? = some r := ⟨_, List.getElem?_eq_getElem (by have := HM.out.1; omega)⟩
        obtain ⟨⟨q0, q1, q2, q3⟩, s1, s2⟩ := hok.out r (List.mem_of_getElem? hr)
        obtain ⟨hN, hlow, ho7⟩ := HS7.out
        have v1 := htAt_get (L := hs7) q0 (by omega)
        have v2 := htAt_get (L := hs7) q2 (by omega)
        obtain ⟨a, ha⟩ : ∃ a : Nat, r.f = (a : Int) := ⟨r.f.toNat, by omega⟩
        obtain ⟨b, hb⟩ : ∃ b : Nat, r.t = (b : Int) := ⟨r.t.toNat, by omega⟩
        obtain ⟨x, hx⟩ : ∃ x, htAt hs7 r.f = x := ⟨_, rfl⟩
        obtain ⟨y, hy⟩ : ∃ x, htAt hs7 r.t = x := ⟨_, rfl⟩
        obtain ⟨s, hs⟩ : ∃ s, r.s = s := ⟨_, rfl⟩
        have hfit : shiftOne hs7 r = ⟨r.f, r.t, s + y - x, r.g⟩ := by unfold shiftOne; rw [hx, hy, hs]
        rw [hx] at v1
        rw [hy] at v2
        obtain ⟨l1, l2⟩ := hlow _ _ v1
        obtain ⟨l3, l4⟩ := hlow _ _ v2
        rw [ha, Int.toNat_natCast] at v1
        rw [hb, Int.toNat_natCast] at v2
        have haN : a < N := by omega
        have hbN : b < N := by omega
        have hoh := ho7.below hbr
        have hg7r : g7 < wr.heap.size := by omega
        have e4 := hoh.cells v1
        have e5 := hoh.cells v2
        obtain ⟨x0, x1, x2, x3⟩ := how.runAt (mapL_at hr)
        rw [ha] at x0
        rw [hb] at x1
        rw [hs] at x2
        rw [hs] at s1 s2
        have HR := Lib.hid (And.intro hr hfit)
        clear hr hfit how v1 v2 hx hy ha hb hs q0 q1 q2 q3 hlow hN ho7 hoh
        go_wp2_with fail
        (refine wp_region_grows_tail 27 (by kernel_rfl) (by kernel_rfl) ?_; simp only [List.take_succ_cons, List.take_zero, List.drop_succ_cons, List.drop_zero]; intro W_wg hWc_wg hWs_wg hWe_wg; (repeat (go_big_quiet_step (fail))); with_reducible refine wpQuiet_nil ?_; clear hWe_wg hWs_wg hWc_wg W_wg; intro wg hb_wg; obtain ⟨hc_wg, hf_wg⟩ := bcell hb_wg; (try simp only [World.size_drew, World.cell?_drew, World.frozen?_drew, World.heap_drewN, World.cell?_drewN, World.frozen?_drewN] at hc_wg hf_wg); have hs_wg := hb_wg.size; (try simp at hs_wg))
        have HOg := Lib.hid (HO.out.1.below hb_wg)
        have hf2 := HOg.out.frozen (k * 4 + 2)
        have hlg := HOg.out.lt
        have x2' : wg.cell? ⟨g1, k * 4 + 2, none⟩ = some (.int .i64 s) := (hc_wg g1 (k * 4 + 2) hlo).trans x2
        clear hc_wg hf_wg x0 x1 x2 x3 e4 e5
        go_wp2_with fail
        go_roundw
        case rel =>
          have h5 := HOg.out.setS (mapL_at HR.out.1) (s + y - x)
          rw [show (⟨r.f, r.t, s + y - x, r.g⟩ : Rn) = shiftOne hs7 r from HR.out.2.symm, mapL_set HR.out.1] at h5
          exact ⟨k + 1, by omega, by go_num, h5, (HO.out.2.trans (hb_wg.mono hbs)).setCell hg1 _⟩
        case measure => simp [intOf]; omega
      · have e : k = m := by omega
        subst e
        have hX := how
        rw [← HM.out.1, mapL_all] at hX
        have HX : Hid (Runs wr (some ⟨g1, 0, none⟩) (rs.map (shiftOne hs7)) ∧ Ints wr q (errs N rs) ∧ Below w.heap.size w wr) := Lib.hid ⟨hX.runs, HB.out.2.2.below hbr, HB.out.1.trans (hbr.mono hsW)⟩
        have hsX := HX.out.2.2.size
        have hlen : (rs.map (shiftOne hs7)).length = k := by rw [List.length_map]; exact HM.out.1
        obtain ⟨v, hv⟩ : ∃ v, nOk N (rs.map (shiftOne hs7)) = v := ⟨_, rfl⟩
        have c5 := fun w h => Lib.hid (iValid_n (p := some ⟨g1, 0, none⟩) (c := cap1) w hlen h (by omega) hv)
        clear how hbr hX HO hlt
        cases v
        · have hwx : nWhole N (rs.map (shiftOne hs7)) = false := by
            cases hc : nWhole N (rs.map (shiftOne hs7)) with
            | false => rfl
            | true => rw [whole_ok hc] at hv; cases hv
          have c4 := fun w h => Lib.hid (iErrors_no N k (some ⟨g1, 0, none⟩) cap1 (rs.map (shiftOne hs7)) w h hlen (by omega) hwx)
          clear hv hwx hlen
          go_wp2_with (first | (go_at_call 31; (with_reducible refine ((c4 _ ?_).out).mono ?_); (focus ((exact HX.out.1); done)); rintro e wx ⟨rfl, hb_wx⟩; have hs_wx := hb_wx.size; (try simp at hs_wx)) | (go_at_call 39; (with_reducible refine ((c5 _ ?_).out).mono ?_); (focus ((exact HX.out.1.below hb_wx); done)); rintro e wv ⟨rfl, hb_wv⟩; have hs_wv := hb_wv.size; (try simp at hs_wv)))
          go_ret
          exact ⟨rfl, HX.out.2.2.trans (by repeat (first | assumption | exact Below.refl _ _ | (refine below_chain ?_ (by assumption) (by first | omega | (simp <;> omega) | simp)) | (refine Below.alloc ?_ (by first | omega | (simp <;> omega) | simp) _) | (apply below_drewN) | (apply below_drew) | (refine Below.setCell ?_ (by first | omega | (simp <;> omega) | simp) _)))⟩
        · have hwx := whole_shift (g := shiftOne hs7) (fun _ => rfl) (fun _ => rfl) HZ.out.1 hv
          have hex := errs_shift (g := shiftOne hs7) (P := htAt hs7) (fun _ => rfl) (fun _ => rfl) (fun _ => rfl) HZ.out.1
          have c4 := fun w h => Lib.hid (iErrors_any N k (some ⟨g1, 0, none⟩) cap1 (rs.map (shiftOne hs7)) w h hlen hwx)
          rw [hex, HZ.out.2] at c4
          clear hv hwx hlen hex
          go_wp2_with (first | ((go_at_call 31; (with_reducible refine ((c4 _ ?_).out).mono ?_); (focus ((exact HX.out.1); done)); rintro e wx ⟨q2, d2, rfl, hi2, hb_wx⟩; have hs_wx := hb_wx.size; (try simp at hs_wx)); have HY := Lib.hid hi2; clear hi2) | (go_at_call 39; (with_reducible refine ((c5 _ ?_).out).mono ?_); (focus ((exact HX.out.1.below hb_wx); done)); rintro e wv ⟨rfl, hb_wv⟩; have hs_wv := hb_wv.size; (try simp at hs_wv)) | (go_at_call 24; (with_reducible refine (sameInts_at HZ.out.2 _ _ _ _ _ ?_ ?_ (by omega)).mono ?_); (focus ((exact HY.out.below hb_wv); done)); (focus ((exact HX.out.2.1.below (by repeat (first | assumption | exact Below.refl _ _ | (refine below_chain ?_ (by assumption) (by first | omega | (simp <;> omega) | simp)) | (refine Below.alloc ?_ (by first | omega | (simp <;> omega) | simp) _) | (apply below_drewN) | (apply below_drew) | (refine Below.setCell ?_ (by first | omega | (simp <;> omega) | simp) _)))); done)); rintro e wt ⟨rfl, hb_wt⟩; have hs_wt := hb_wt.size; (try simp at hs_wt)))
          go_ret
          exact ⟨rfl, HX.out.2.2.trans (by repeat (first | assumption | exact Below.refl _ _ | (refine below_chain ?_ (by assumption) (by first | omega | (simp <;> omega) | simp)) | (refine Below.alloc ?_ (by first | omega | (simp <;> omega) | simp) _) | (apply below_drewN) | (apply below_drew) | (refine Below.setCell ?_ (by first | omega | (simp <;> omega) | simp) _)))⟩

set_option maxRecDepth 100000 in
theorem walk_long (len cap : Nat) (p : Option Addr) (len1 cap1 : Nat) (p1 : Option Addr) (w : World) (hl : 1048576 < len ∨ 1048576 < len1) :
    Calls Try.prog 8 #[.slice p len cap, .slice p1 len1 cap1] w fun e w' => e = .returned (.bool true) ∧ Below w.heap.size w w' := by
  by_cases h0 : (1048576 : Int) < (len : Int)
  · go_enter Try.func8, Try.ntmps8
    go_wp2
    go_ret
    exact ⟨rfl, Below.refl _ _⟩
  · have hl' : (1048576 : Int) < (len1 : Int) := by omega
    clear hl
    go_enter Try.func8, Try.ntmps8
    go_wp2
    go_ret
    exact ⟨rfl, Below.refl _ _⟩

set_option maxRecDepth 100000 in
theorem lifted (os : Os) (started : os.Started) (H : Type) (enc : TypeId × Value → H) :
    ReturnsInHanded {} Try.checked os 8 .any (Rows.fnLoopErrorsShiftSpec.pre6 enc Try.prog Try.f8 Rows.fnLoopErrorsShiftRow.domain false) (Rows.fnLoopErrorsShiftSpec.post enc Try.prog Try.f8 false true false false) := by
  refine returnsInHanded_of_change (C := Try.checked) own started (by kernel_rfl) Try.func8
    (ChangeSpec.witness6 (enc := enc) (C := Try.checked) false ⟨#[], #[.slice none 0 0, .slice none 0 0], []⟩ 8 (by kernel_rfl) (by kernel_rfl) (by kernel_rfl) (by kernel_rfl)) ?_
  intro W base args ds gs before hval0 hW hcnd _
  have hval : ∀ (j : Nat) t v, Try.f8.params[j]? = some t → args[j]? = some v → Value.okWide Try.prog W .any base t v := hval0
  have hW' := hW
  obtain ⟨p, q, hA0, hV, rfl, hfz, hnd⟩ := hW
  have hA : DataW.TrodAll enc Try.prog W 0 (fun _ => true) true Try.f8.params.toList args.toList ds p := hA0
  rw [Try.params8] at hA hval
  obtain ⟨v0, vs0, d0, ds0, p0, q0, hargs, rfl, rfl, h0, r0⟩ := trodAll_cons hA
  obtain ⟨v1, vs1, d1, ds1, p1, q1, rfl, rfl, rfl, h1, r1⟩ := trodAll_cons r0
  obtain ⟨rfl, rfl, rfl⟩ := trodAll_nil r1
  obtain rfl : args = #[v0, v1] := by cases args; simp_all
  obtain ⟨rfl, rfl⟩ := trodVars_none hV
  obtain ⟨a0, len0, cap0, rfl⟩ := okWide_slice Try.underlying22 (hval 0 22 v0 rfl rfl)
  have k0 := h0
  have lt0 : ∀ x ∈ p0, x.block < W.heap.size := by obtain ⟨m, hm⟩ := k0; exact DataW.trod_lt m _ _ _ hm
  obtain ⟨z0, w0⟩ : ∃ zs, IsRow .u8 W a0 len0 cap0 zs := by
    obtain ⟨fuel, hf⟩ := h0
    rcases open_ints Try.underlying22 Try.underlying5 (by kernel_rfl) hf with ⟨hcs, _⟩ | ⟨x, l, c, zs, hcs, _, hl, hm, hz, _, hcell, hwz⟩
    · simp [Value.cells] at hcs
      obtain ⟨rfl, rfl, rfl⟩ := hcs
      exact ⟨[], .inl ⟨rfl, rfl, rfl, rfl⟩⟩
    · simp [Value.cells] at hcs
      obtain ⟨rfl, rfl, rfl⟩ := hcs
      exact ⟨zs, .inr ⟨_, rfl, hl, hm, by simpa using hz, hcell, hwz⟩⟩
  obtain ⟨a1, len1, cap1, rfl⟩ := okWide_slice Try.underlying22 (hval 1 22 v1 rfl rfl)
  have k1 := h1
  have lt1 : ∀ x ∈ p1, x.block < W.heap.size := by obtain ⟨m, hm⟩ := k1; exact DataW.trod_lt m _ _ _ hm
  obtain ⟨z1, w1⟩ : ∃ zs, IsRow .u8 W a1 len1 cap1 zs := by
    obtain ⟨fuel, hf⟩ := h1
    rcases open_ints Try.underlying22 Try.underlying5 (by kernel_rfl) hf with ⟨hcs, _⟩ | ⟨x, l, c, zs, hcs, _, hl, hm, hz, _, hcell, hwz⟩
    · simp [Value.cells] at hcs
      obtain ⟨rfl, rfl, rfl⟩ := hcs
      exact ⟨[], .inl ⟨rfl, rfl, rfl, rfl⟩⟩
    · simp [Value.cells] at hcs
      obtain ⟨rfl, rfl, rfl⟩ := hcs
      exact ⟨zs, .inr ⟨_, rfl, hl, hm, by simpa using hz, hcell, hwz⟩⟩
  clear hA0 hval0
  have hw : Calls Try.prog 8 #[.slice a0 len0 cap0, .slice a1 len1 cap1] W fun e w' => e = .returned (.bool true) ∧ Below W.heap.size W w' := by
    by_cases hl : len0 ≤ 1048576
    · by_cases hm : len1 ≤ 1048576
      · exact walk len0 cap0 a0 len1 cap1 a1 W hl hm (Lib.hid (code_of_row w0 hl)) (Lib.hid (code_of_row w1 hm))
      · exact walk_long len0 cap0 a0 len1 cap1 a1 W (by omega)
    · exact walk_long len0 cap0 a0 len1 cap1 a1 W (by omega)
  refine hw.mono fun e W' ⟨he, bel⟩ => ?_
  subst he
  exact ⟨_, rfl, _, _, _, [], _, [], hW', trodAll_mk1 (shut_bool Try.underlying4 _), (trodAll_cons_mk (Below.trod laidOut (by kernel_rfl) (of_decide_eq_true (by kernel_rfl)) k0 bel lt0) (trodAll_cons_mk (Below.trod laidOut (by kernel_rfl) (of_decide_eq_true (by kernel_rfl)) k1 bel lt1) trodAll_mk0)), rfl, bel.frame _, fun h => by cases h⟩

theorem over : Rows.fnLoopErrorsShiftRow.holds Try.pinned (OpenSpec.ofChange Rows.fnLoopErrorsShiftSpec) :=
  OpenClaim.holds_of_wide 8 Try.f8 rfl rfl rfl rfl rfl rfl rfl ⟨rfl, rfl, rfl, rfl, rfl⟩ rfl rfl rfl rfl rfl (by kernel_rfl) Try.func8 (by kernel_rfl)
    (of_decide_eq_true (by kernel_rfl)) (by unfold Func.isWrapper; first | (rw [if_pos (by decide +kernel)]; kernel_rfl) | (rw [if_neg (by decide +kernel)]; exact ⟨rfl, rfl⟩))
    (fun os started H enc _ => lifted os started H enc)

theorem proved : Rows.FnLoopErrorsShiftSaid := over
end Go.Proofs.Ytimghdffmdcheaa.fnLoopErrorsShift

