/-
  For every two codes the law FnFitsWhole returns true: impl.NetFits answers as the reference model does; in a whole net other heights fit exactly if they differ alike from heights that fit, and a net that is not whole has no fewer loops than none. No condition: every two lists of bytes are taken.
-/
import Derived.Test.YtfkpjphafdknaaaNU
import Derived.Test.YtfkpjphafdknaaaCode
namespace Go.Proofs.Ytfkpjphafdknaaa.fnFitsWhole
open Go.ChangeShapes Go.WideShapes Go.ChangeAt Go.RowKit
set_option linter.unusedVariables false

def Near (L : List Int) : Prop := ∀ (i : Nat) (z : Int), L[i]? = some z → -1000000 ≤ z ∧ z ≤ 1000000
theorem Near.set {L : List Int} (h : Near L) (k : Nat) (z : Int) (h0 : -1000000 ≤ z) (h1 : z ≤ 1000000) : Near (L.set k z) := fun i y hy => by
  rw [List.getElem?_set] at hy
  split at hy
  · split at hy
    · cases hy; omega
    · cases hy
  · exact h i y hy

set_option maxHeartbeats 4000000 in
set_option maxRecDepth 100000 in
theorem walk (len cap : Nat) (p : Option Addr) (len2 cap2 : Nat) (p2 : Option Addr) (w : World) (hl : len ≤ 1048576) (hl2 : len2 ≤ 1048576) (h : Hid (Code' w (.slice p len cap))) (h2 : Hid (Code' w (.slice p2 len2 cap2))) :
    Calls Try.prog 7 #[.slice p len cap, .slice p2 len2 cap2] w fun e w' => e = .returned (.bool true) ∧ Below w.heap.size w w' := by
  have hl' : ¬ (1048576 : Int) < (len : Int) := by omega
  have hl2' : ¬ (1048576 : Int) < (len2 : Int) := by omega
  clear h2
  go_enter Try.func7, Try.ntmps7
  go_wp2_with (go_at_call 29; (with_reducible refine (drawFits_is _ _ h).mono ?_); rintro e wd ⟨N, m, rs, hs, P, Q, ⟨c, d, hmc, rfl⟩, ⟨hmm, hhN, ⟨hN2, hN6⟩, hm8⟩, hR, hI, hb_wd⟩; have hs_wd := hb_wd.size; have HR := Lib.hid hR; have HI := Lib.hid hI; have HM := Lib.hid (And.intro hmm hhN); clear hR hI hmm hhN)
  clear h
  obtain ⟨b, hb⟩ : ∃ b, nFits N rs hs = b := ⟨_, rfl⟩
  have c1 := fun w h hh => Lib.hid (iFits_at (q := some ⟨P, 0, none⟩) (c := c) (p := some ⟨Q, 0, none⟩) (d := d) w HM.out.1 HM.out.2 h hh (by omega) hN6 hb)
  have c2 := fun w h hh => Lib.hid (sFits_at (q := some ⟨P, 0, none⟩) (c := c) (p := some ⟨Q, 0, none⟩) (d := d) w HM.out.1 HM.out.2 h hh (by omega) hN6 hb)
  have HB := Lib.hid hb
  clear hb
  cases b
  · go_wp2_with (first | (go_at_call 28; (with_reducible refine ((c1 _ ?_ ?_).out).mono ?_); (focus ((exact HR.out); done)); (focus ((exact HI.out); done)); rintro e wi ⟨rfl, hb_wi⟩; have hs_wi := hb_wi.size; (try simp at hs_wi)) | (go_at_call 30; (with_reducible refine ((c2 _ ?_ ?_).out).mono ?_); (focus ((exact HR.out.below (by repeat (first | assumption | exact Below.refl _ _ | (refine below_chain ?_ (by assumption) (by first | omega | (simp <;> omega) | simp)) | (refine Below.alloc ?_ (by first | omega | (simp <;> omega) | simp) _) | (apply below_drewN) | (apply below_drew) | (refine Below.setCell ?_ (by first | omega | (simp <;> omega) | simp) _)))); done)); (focus ((exact HI.out.below (by repeat (first | assumption | exact Below.refl _ _ | (refine below_chain ?_ (by assumption) (by first | omega | (simp <;> omega) | simp)) | (refine Below.alloc ?_ (by first | omega | (simp <;> omega) | simp) _) | (apply below_drewN) | (apply below_drew) | (refine Below.setCell ?_ (by first | omega | (simp <;> omega) | simp) _)))); done)); rintro e ws ⟨rfl, hb_ws⟩; have hs_ws := hb_ws.size; (try simp at hs_ws)))
    go_ret
    exact ⟨rfl, (by repeat (first | assumption | exact Below.refl _ _ | (refine below_chain ?_ (by assumption) (by first | omega | (simp <;> omega) | simp)) | (refine Below.alloc ?_ (by first | omega | (simp <;> omega) | simp) _) | (apply below_drewN) | (apply below_drew) | (refine Below.setCell ?_ (by first | omega | (simp <;> omega) | simp) _)))⟩
  · obtain ⟨b, hb⟩ : ∃ b, nWhole N rs = b := ⟨_, rfl⟩
    obtain ⟨v, hv⟩ : ∃ v, nLoops N rs = v := ⟨_, rfl⟩
    have hv0 : 0 ≤ v := by rw [← hv]; exact nLoops_pos (nFits_true HB.out).1
    have c3 := fun w q c h => Lib.hid (iWhole_at (q := q) (c := c) w HM.out.1 h (by omega) hb)
    have c4 := fun w q c h => Lib.hid (iLoops_at (q := q) (c := c) w HM.out.1 h (by omega) hv)
    have HW := Lib.hid hb
    clear hb hv
    go_upto_region 8 with (first | (go_at_call 28; (with_reducible refine ((c1 _ ?_ ?_).out).mono ?_); (focus ((exact HR.out); done)); (focus ((exact HI.out); done)); rintro e wi ⟨rfl, hb_wi⟩; have hs_wi := hb_wi.size; (try simp at hs_wi)) | (go_at_call 30; (with_reducible refine ((c2 _ ?_ ?_).out).mono ?_); (focus ((exact HR.out.below (by repeat (first | assumption | exact Below.refl _ _ | (refine below_chain ?_ (by assumption) (by first | omega | (simp <;> omega) | simp)) | (refine Below.alloc ?_ (by first | omega | (simp <;> omega) | simp) _) | (apply below_drewN) | (apply below_drew) | (refine Below.setCell ?_ (by first | omega | (simp <;> omega) | simp) _)))); done)); (focus ((exact HI.out.below (by repeat (first | assumption | exact Below.refl _ _ | (refine below_chain ?_ (by assumption) (by first | omega | (simp <;> omega) | simp)) | (refine Below.alloc ?_ (by first | omega | (simp <;> omega) | simp) _) | (apply below_drewN) | (apply below_drew) | (refine Below.setCell ?_ (by first | omega | (simp <;> omega) | simp) _)))); done)); rintro e ws ⟨rfl, hb_ws⟩; have hs_ws := hb_ws.size; (try simp at hs_ws)))
    have HB0 : Hid (Below w.heap.size w ws) := Lib.hid (by repeat (first | assumption | exact Below.refl _ _ | (refine below_chain ?_ (by assumption) (by first | omega | (simp <;> omega) | simp)) | (refine Below.alloc ?_ (by first | omega | (simp <;> omega) | simp) _) | (apply below_drewN) | (apply below_drew) | (refine Below.setCell ?_ (by first | omega | (simp <;> omega) | simp) _)))
    have HR1 := Lib.hid (HR.out.below (w' := ws) (hb_wi.trans (hb_ws.mono hs_wi)))
    have HI1 := Lib.hid (HI.out.below (w' := ws) (hb_wi.trans (hb_ws.mono hs_wi)))
    clear c1 c2 HR HI hb_wd hb_wi hb_ws hs_wi
    have hbs0 := HB0.out.size
    cases b
    · go_wp2_with (first | (go_at_call 18; (with_reducible refine ((c3 _ _ _ ?_).out).mono ?_); (focus ((exact HR1.out); done)); rintro e wx ⟨rfl, hb_wx⟩; have hs_wx := hb_wx.size; (try simp at hs_wx)) | (go_at_call 20; (with_reducible refine ((c4 _ _ _ ?_).out).mono ?_); (focus ((exact HR1.out.below hb_wx); done)); rintro e wy ⟨rfl, hb_wy⟩; have hs_wy := hb_wy.size; (try simp at hs_wy)))
      go_ret
      exact ⟨ret_bool (by simp), (HB0.out.trans (hb_wx.mono (by omega))).trans (hb_wy.mono (by omega))⟩
    · clear c4 hv0
      go_upto_region 10 with ((go_at_call 18; (with_reducible refine ((c3 _ _ _ ?_).out).mono ?_); (focus ((exact HR1.out); done)); rintro e wx ⟨rfl, hb_wx⟩; have hs_wx := hb_wx.size; (try simp at hs_wx)))
      have HB1 := Lib.hid (HB0.out.trans (hb_wx.mono hbs0))
      have HR2 := Lib.hid (HR1.out.below hb_wx)
      have HI2 := Lib.hid (HI1.out.below hb_wx)
      have HIr := Lib.hid (HI2.out.alloc (.cells #[] 3))
      have hbs1 := HB1.out.size
      clear HB0 HR1 HI1 hb_wx c3
      go_upto_region 11 with (at_builtin; refine wp_append _ rfl _ _ 26 rfl 3 _ 1 8 Try.underlying26 info_int rfl (by decide) (by decide) _ 0 0 [] rfl (Own.empty _ _ _) _ _ _ hs rfl (by have := HM.out.2; omega) (ints_cells HIr.out) (by omega) ?_; intro go co wo hown hgr hloc hsz; have HN := Lib.hid (And.intro hown (And.intro hgr hloc)); clear hown hgr hloc; simp only [Nat.zero_add])
      obtain ⟨hwo, hgr, hlc⟩ := HN.out
      rw [Nat.zero_add, List.nil_append] at hwo
      have hgo : wx.heap.size ≤ go := by
        rcases hlc with e | e
        · omega
        · simp at e; omega
      have HBo := Lib.hid (below_gr ((Below.refl _ _).alloc (Nat.le_refl _) (.cells #[] 3)) hgr (Nat.le_refl _) (by simp))
      have HO0 := Lib.hid hwo
      clear HN HIr hgr hlc hwo
      go_upto_region 12 with fail
      obtain ⟨D, hD⟩ : ∃ D : Int, (len2 : Int) % 5 - 2 = D := ⟨_, rfl⟩
      have hD1 : -2 ≤ D ∧ D ≤ 2 := by omega
      rw [hD]
      clear hD hsz
      go_wp2_with fail
      have hnear : Near hs := (htOk_true (nFits_true HB.out).2.1).2
      go_loopw [12] (fun i wr => ∃ (j : Nat) (L : List Int), j ≤ N ∧ i = .int .i64 j ∧ Own wr go 3 1 N co L ∧ Near L ∧ Below wx.heap.size wx wr) (fun i _ => N - (intOf i).toNat)
      case atStart => exact ⟨0, hs, Nat.zero_le _, rfl, HO0.out, hnear, HBo.out⟩
      case round =>
        clear HO0 HBo hnear
        obtain ⟨j, L, hj, rfl, how, hnr, hbr⟩ := hrel
        have hLl := how.len
        have hlo := how.lt
        have HO := Lib.hid (And.intro how (And.intro hnr (And.intro hbr hLl)))
        by_cases hlt : j < N
        · obtain ⟨y, hy⟩ : ∃ y, L[j]? = some y := ⟨_, List.getElem?_eq_getElem (by omega)⟩
          obtain ⟨y0, y1⟩ := hnr j y hy
          have e0 := how.cells hy
          have f0 := how.frozen j
          clear how hnr hbr hy hLl
          go_wp2_with fail
          go_roundw
          case rel => exact ⟨j + 1, L.set j _, by omega, by go_num, HO.out.1.set j _ (by have := HO.out.2.2.2; omega), HO.out.2.1.set j _ (by (repeat' split) <;> omega) (by (repeat' split) <;> omega), HO.out.2.2.1.setCell (p := ⟨go, j, none⟩) hgo _⟩
          case measure => simp [intOf]; omega
        · have e : j = N := by omega
          subst e
          clear how hnr hbr hLl
          go_upto_region 16 with fail
          obtain ⟨k, hkd⟩ : ∃ k : Nat, k = len2 / 5 % j := ⟨_, rfl⟩
          have hkj : k < j := by rw [hkd]; exact Nat.mod_lt _ (by omega)
          have hkj' : (k : Int) < (j : Int) := by omega
          have hke : (len2 : Int) / 5 % (j : Int) = (k : Int) := by rw [hkd]; rfl
          obtain ⟨y, hy⟩ : ∃ y, L[k]? = some y := ⟨_, List.getElem?_eq_getElem (by have := HO.out.2.2.2; omega)⟩
          obtain ⟨y0, y1⟩ := HO.out.2.1 k y hy
          have e0 := HO.out.1.cells hy
          have f0 := HO.out.1.frozen k
          clear hkd hy
          go_upto_region 17 with fail
          rw [hke]
          clear hke
          go_cut [] (fun W => ∃ L : List Int, Own W go 3 1 j co L ∧ Near L ∧ Below wx.heap.size wx W ∧ L.length = j * 1)
          case first =>
            go_wp2_with fail
            all_goals (
              go_meet
              case rel => exact ⟨L.set k _, HO.out.1.set k _ (by have := HO.out.2.2.2; omega), HO.out.2.1.set k _ (by (repeat' split) <;> omega) (by (repeat' split) <;> omega), HO.out.2.2.1.setCell (p := ⟨go, k, none⟩) hgo _, by simpa using HO.out.2.2.2⟩)
          rename World => w2
          have h2 := hcut
          clear hcut
          clear HO e0 f0 hlo y0 y1
          obtain ⟨os, how, hnr, hB2, hol⟩ := h2
          rw [Nat.mul_one] at hol
          have HO := Lib.hid (And.intro how hnr)
          have hlo := how.lt
          have HI3 := Lib.hid (HI2.out.below hB2)
          obtain ⟨a0, ha0⟩ : ∃ a, os[0]? = some a := ⟨_, List.getElem?_eq_getElem (by omega)⟩
          obtain ⟨b0, hb0⟩ : ∃ a, hs[0]? = some a := ⟨_, List.getElem?_eq_getElem (by have := HM.out.2; omega)⟩
          obtain ⟨a1, a2⟩ := hnr 0 a0 ha0
          obtain ⟨b1, b2⟩ := (htOk_true (nFits_true HB.out).2.1).2 0 b0 hb0
          have x0 := how.cells ha0
          obtain ⟨B, o, b0', eq, hb0', hBw, y0⟩ := HI3.out.at (i := 0) (by have := HM.out.2; omega)
          simp at eq
          obtain ⟨rfl, rfl⟩ := eq
          obtain rfl : b0 = b0' := by rw [hb0] at hb0'; cases hb0'; rfl
          rw [Nat.zero_add] at y0
          have HD : Hid (htAt os 0 - htAt hs 0 = a0 - b0) := Lib.hid (by have := htAt_nat (i := 0) ha0; have := htAt_nat (i := 0) hb0; simp at *; omega)
          clear ha0 hb0 hb0' how hnr
          go_wp2_with fail
          go_loopw [14, 15] (fun v i wr => ∃ (l : Nat) (b : Bool), l ≤ j ∧ i = .int .i64 l ∧ v = .bool b ∧ (b = true ↔ ∀ x : Nat, x < l → htAt os x - htAt hs x = a0 - b0) ∧ w2.heap.size ≤ wr.heap.size ∧ Below w2.heap.size w2 wr) (fun _ i _ => j - (intOf i).toNat)
          case atStart => exact ⟨0, true, Nat.zero_le _, rfl, rfl, by simp, Nat.le_refl _, Below.refl _ _⟩
          case round =>
            rename World => wq
            obtain ⟨l, b, hl, rfl, rfl, hb, hsq, hbq⟩ := hrel
            have HQ := Lib.hid (And.intro (HO.out.1.below hbq) (And.intro (HI3.out.below hbq) hbq))
            by_cases hlt : l < j
            · have HX := Lib.hid hb
              clear hb
              cases b
              · clear hbq
                go_wp2_with fail
                (refine wp_region_grows (by kernel_rfl) (by kernel_rfl) ?_; intro W_wg hWc_wg hWs_wg hWe_wg; (repeat (go_big_quiet_step (fail))); with_reducible refine wpQuiet_nil ?_; clear hWe_wg hWs_wg hWc_wg W_wg; intro wg hb_wg; obtain ⟨hc_wg, hf_wg⟩ := bcell hb_wg; (try simp only [World.size_drew, World.cell?_drew, World.frozen?_drew, World.heap_drewN, World.cell?_drewN, World.frozen?_drewN] at hc_wg hf_wg); have hs_wg := hb_wg.size; (try simp at hs_wg))
                go_wp2_with fail
                go_roundw
                case rel => exact ⟨l + 1, false, by omega, by go_num, rfl, ⟨fun h => by simp at h, fun h => HX.out.2 (fun x hx => h x (by omega))⟩, by omega, HQ.out.2.2.trans (hb_wg.mono hsq)⟩
                case measure => simp [intOf]; omega
              · obtain ⟨u, hu⟩ : ∃ a, os[l]? = some a := ⟨_, List.getElem?_eq_getElem (by omega)⟩
                obtain ⟨u1, u2⟩ := HO.out.2 l u hu
                have x1 := HQ.out.1.cells hu
                have x0' : wq.cell? ⟨go, 0, none⟩ = some (.int .i64 a0) := ((bcell hbq).1 _ _ hlo).trans x0
                have y0' : wq.cell? ⟨Q, 0, none⟩ = some (.int .i64 b0) := ((bcell hbq).1 _ _ hBw).trans y0
                obtain ⟨B, o, t, eq, ht, hB, y1⟩ := HQ.out.2.1.at (i := l) (by have := HM.out.2; omega)
                simp at eq
                obtain ⟨rfl, rfl⟩ := eq
                rw [Nat.zero_add] at y1
                obtain ⟨t1, t2⟩ := (htOk_true (nFits_true HB.out).2.1).2 l t ht
                have hlo2 := HQ.out.1.lt
                have HD2 : Hid (htAt os l - htAt hs l = u - t) := Lib.hid (by rw [htAt_nat hu, htAt_nat ht])
                clear hbq hu ht
                obtain ⟨e, he⟩ : ∃ e, (u - t == a0 - b0) = e := ⟨_, rfl⟩
                have HE := Lib.hid he
                go_wp2_with fail
                (refine wp_region_grows (by kernel_rfl) (by kernel_rfl) ?_; intro W_wg hWc_wg hWs_wg hWe_wg; (repeat (go_big_quiet_step (fail))); with_reducible refine wpQuiet_nil ?_; clear hWe_wg hWs_wg hWc_wg W_wg; intro wg hb_wg; obtain ⟨hc_wg, hf_wg⟩ := bcell hb_wg; (try simp only [World.size_drew, World.cell?_drew, World.frozen?_drew, World.heap_drewN, World.cell?_drewN, World.frozen?_drewN] at hc_wg hf_wg); have hs_wg := hb_wg.size; (try simp at hs_wg))
                go_wp2_with fail
                go_roundw
                case rel => exact ⟨l + 1, e, by omega, by go_num, by simp, by
                  have he := HE.out
                  constructor
                  · intro h x hx
                    rw [h] at he
                    by_cases ex : x = l
                    · subst ex; rw [HD2.out]; simpa using he
                    · exact HX.out.1 (by trivial) x (by omega)
                  · intro h
                    have := h l (by omega)
                    rw [HD2.out] at this
                    rw [← he]; simpa using this, by omega, HQ.out.2.2.trans (hb_wg.mono hsq)⟩
                case measure => simp [intOf]; omega
            · have e : l = j := by omega
              subst e
              have hfin : nFits l rs os = b := by
                have := fits_whole HB.out HW.out hol HO.out.2
                rw [HD.out] at this
                rw [Bool.eq_iff_iff]
                exact this.trans hb.symm
              have c5 := fun w q c p d h hh => Lib.hid (iFits_at (q := q) (c := c) (p := p) (d := d) w HM.out.1 hol h hh (by omega) hN6 hfin)
              have hR3 := Lib.hid ((HR2.out.below hB2).below hbq)
              have hB4 := Lib.hid (HB1.out.trans ((hB2.trans (hbq.mono hB2.size)).mono hbs1))
              have hbs4 := hB4.out.size
              clear hb hfin hB2 hbq x0 y0
              go_wp2_with ((go_at_call 28; (with_reducible refine ((c5 _ _ _ _ _ ?_ ?_).out).mono ?_); (focus ((exact hR3.out); done)); (focus ((exact HQ.out.1.ints); done)); rintro e wz ⟨rfl, hb_wz⟩; have hs_wz := hb_wz.size; (try simp at hs_wz)))
              go_ret
              exact ⟨ret_bool (by simp), hB4.out.trans (hb_wz.mono hbs4)⟩

theorem walk_long (len cap : Nat) (p : Option Addr) (len1 cap1 : Nat) (p1 : Option Addr) (w : World) (hl : 1048576 < len ∨ 1048576 < len1) :
    Calls Try.prog 7 #[.slice p len cap, .slice p1 len1 cap1] w fun e w' => e = .returned (.bool true) ∧ Below w.heap.size w w' := by
  by_cases h0 : (1048576 : Int) < (len : Int)
  · go_enter Try.func7, Try.ntmps7
    go_wp2
    go_ret
    exact ⟨rfl, Below.refl _ _⟩
  · have hl' : (1048576 : Int) < (len1 : Int) := by omega
    clear hl
    go_enter Try.func7, Try.ntmps7
    go_wp2
    go_ret
    exact ⟨rfl, Below.refl _ _⟩

set_option maxRecDepth 100000 in
theorem lifted (os : Os) (started : os.Started) (H : Type) (enc : TypeId × Value → H) :
    ReturnsInHanded {} Try.checked os 7 .any (Rows.fnFitsWholeSpec.pre6 enc Try.prog Try.f7 Rows.fnFitsWholeRow.domain false) (Rows.fnFitsWholeSpec.post enc Try.prog Try.f7 false true false false) := by
  refine returnsInHanded_of_change (C := Try.checked) own started (by kernel_rfl) Try.func7
    (ChangeSpec.witness6 (enc := enc) (C := Try.checked) false ⟨#[], #[.slice none 0 0, .slice none 0 0], []⟩ 8 (by kernel_rfl) (by kernel_rfl) (by kernel_rfl) (by kernel_rfl)) ?_
  intro W base args ds gs before hval0 hW hcnd _
  have hval : ∀ (j : Nat) t v, Try.f7.params[j]? = some t → args[j]? = some v → Value.okWide Try.prog W .any base t v := hval0
  have hW' := hW
  obtain ⟨p, q, hA0, hV, rfl, hfz, hnd⟩ := hW
  have hA : DataW.TrodAll enc Try.prog W 0 (fun _ => true) true Try.f7.params.toList args.toList ds p := hA0
  rw [Try.params7] at hA hval
  obtain ⟨v0, vs0, d0, ds0, p0, q0, hargs, rfl, rfl, h0, r0⟩ := trodAll_cons hA
  obtain ⟨v1, vs1, d1, ds1, p1, q1, rfl, rfl, rfl, h1, r1⟩ := trodAll_cons r0
  obtain ⟨rfl, rfl, rfl⟩ := trodAll_nil r1
  obtain rfl : args = #[v0, v1] := by cases args; simp_all
  obtain ⟨rfl, rfl⟩ := trodVars_none hV
  obtain ⟨a0, len0, cap0, rfl⟩ := okWide_slice Try.underlying22 (hval 0 22 v0 rfl rfl)
  have k0 := h0
  have lt0 : ∀ x ∈ p0, x.block < W.heap.size := by obtain ⟨m, hm⟩ := k0; exact DataW.trod_lt m _ _ _ hm
  obtain ⟨z0, w0⟩ : ∃ zs, IsRow .u8 W a0 len0 cap0 zs := by
    obtain ⟨fuel, hf⟩ := h0
    rcases open_ints Try.underlying22 Try.underlying5 (by kernel_rfl) hf with ⟨hcs, _⟩ | ⟨x, l, c, zs, hcs, _, hl, hm, hz, _, hcell, hwz⟩
    · simp [Value.cells] at hcs
      obtain ⟨rfl, rfl, rfl⟩ := hcs
      exact ⟨[], .inl ⟨rfl, rfl, rfl, rfl⟩⟩
    · simp [Value.cells] at hcs
      obtain ⟨rfl, rfl, rfl⟩ := hcs
      exact ⟨zs, .inr ⟨_, rfl, hl, hm, by simpa using hz, hcell, hwz⟩⟩
  obtain ⟨a1, len1, cap1, rfl⟩ := okWide_slice Try.underlying22 (hval 1 22 v1 rfl rfl)
  have k1 := h1
  have lt1 : ∀ x ∈ p1, x.block < W.heap.size := by obtain ⟨m, hm⟩ := k1; exact DataW.trod_lt m _ _ _ hm
  obtain ⟨z1, w1⟩ : ∃ zs, IsRow .u8 W a1 len1 cap1 zs := by
    obtain ⟨fuel, hf⟩ := h1
    rcases open_ints Try.underlying22 Try.underlying5 (by kernel_rfl) hf with ⟨hcs, _⟩ | ⟨x, l, c, zs, hcs, _, hl, hm, hz, _, hcell, hwz⟩
    · simp [Value.cells] at hcs
      obtain ⟨rfl, rfl, rfl⟩ := hcs
      exact ⟨[], .inl ⟨rfl, rfl, rfl, rfl⟩⟩
    · simp [Value.cells] at hcs
      obtain ⟨rfl, rfl, rfl⟩ := hcs
      exact ⟨zs, .inr ⟨_, rfl, hl, hm, by simpa using hz, hcell, hwz⟩⟩
  clear hA0 hval0
  have hw : Calls Try.prog 7 #[.slice a0 len0 cap0, .slice a1 len1 cap1] W fun e w' => e = .returned (.bool true) ∧ Below W.heap.size W w' := by
    by_cases hl : len0 ≤ 1048576
    · by_cases hm : len1 ≤ 1048576
      · exact walk len0 cap0 a0 len1 cap1 a1 W hl hm (Lib.hid (code_of_row w0 hl)) (Lib.hid (code_of_row w1 hm))
      · exact walk_long len0 cap0 a0 len1 cap1 a1 W (by omega)
    · exact walk_long len0 cap0 a0 len1 cap1 a1 W (by omega)
  refine hw.mono fun e W' ⟨he, bel⟩ => ?_
  subst he
  exact ⟨_, rfl, _, _, _, [], _, [], hW', trodAll_mk1 (shut_bool Try.underlying4 _), (trodAll_cons_mk (Below.trod laidOut (by kernel_rfl) (of_decide_eq_true (by kernel_rfl)) k0 bel lt0) (trodAll_cons_mk (Below.trod laidOut (by kernel_rfl) (of_decide_eq_true (by kernel_rfl)) k1 bel lt1) trodAll_mk0)), rfl, bel.frame _, fun h => by cases h⟩

theorem over : Rows.fnFitsWholeRow.holds Try.pinned (OpenSpec.ofChange Rows.fnFitsWholeSpec) :=
  OpenClaim.holds_of_wide 7 Try.f7 rfl rfl rfl rfl rfl rfl rfl ⟨rfl, rfl, rfl, rfl, rfl⟩ rfl rfl rfl rfl rfl (by kernel_rfl) Try.func7 (by kernel_rfl)
    (of_decide_eq_true (by kernel_rfl)) (by unfold Func.isWrapper; first | (rw [if_pos (by decide +kernel)]; kernel_rfl) | (rw [if_neg (by decide +kernel)]; exact ⟨rfl, rfl⟩))
    (fun os started H enc _ => lifted os started H enc)

theorem proved : Rows.FnFitsWholeSaid := over
end Go.Proofs.Ytfkpjphafdknaaa.fnFitsWhole

