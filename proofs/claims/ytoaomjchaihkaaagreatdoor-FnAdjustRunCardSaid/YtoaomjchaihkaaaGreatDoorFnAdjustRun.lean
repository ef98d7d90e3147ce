/-
  For every code the law FnAdjustRun returns true: impl.AdjustRun answers as the reference model does; a turned run's adjusted rise is turned, and the adjusted rises round the loop that LoopOf gives sum to 0. Condition: the package's error variable holds the error that its initialiser lays (the card ties that to the program's text, pruned to the packages that the law loads); every list of bytes is taken.
-/
import Derived.Test.YtoaomjchaihkaaaGreatDoorCards
import Derived.Test.YtoaomjchaihkaaaGreatDoorEd
import Derived.Test.YtoaomjchaihkaaaGreatDoorEl
import Derived.Test.YtoaomjchaihkaaaGreatDoorDNs
import Derived.Test.YtoaomjchaihkaaaGreatDoorVz
import Derived.Test.YtoaomjchaihkaaaGreatDoorEyb
import Derived.Test.YtoaomjchaihkaaaGreatDoorCode
namespace Go.Proofs.YtoaomjchaihkaaaGreatDoor.fnAdjustRun
open Go.ChangeShapes Go.WideShapes Go.ChangeAt Go.RowKit
set_option linter.unusedVariables false

theorem gen_exitX {Q : Exit → Act → World → Prop} {x : Exit} {a : Act} {W : World} (p : World → Prop) (h : p W) (k : ∀ W', p W' → Q x a W') : Q x a W := k W h
theorem v_low {N D : Int} : -1000000000 ≤ vT N D ∧ vT N D ≤ 1000000000 := by
  unfold vT
  by_cases h : Quo.qO N D = true
  · rw [if_pos h]
    unfold Quo.qO Quo.qv at h
    simp at h
    omega
  · rw [if_neg h]; omega
set_option maxHeartbeats 8000000 in
set_option maxRecDepth 100000 in
theorem walk (len cap : Nat) (p : Option Addr) (w : World) (hl : len ≤ 1048576) (h : Hid (Code' w (.slice p len cap))) (he : Hid (ErrV w)) :
    Calls Tryz.prog 4 #[.slice p len cap] w fun e w' => e = .returned (.bool true) ∧ Below w.heap.size w w' := by
  have hl' : ¬ (1048576 : Int) < (len : Int) := by omega
  go_enter Tryz.func4, Tryz.ntmps4
  go_upto_region 4 with (go_at_call 17; (with_reducible refine (drawAdjRun_is _ _ h).mono ?_); rintro e wd ⟨N, m, rs, B, k, ⟨c, hmc, rfl⟩, ⟨⟨hmm, ⟨hN2, hN6⟩, hm8, hns⟩, hR, hb_wd⟩, hk1, hk2⟩; have hs_wd := hb_wd.size; have HR := Lib.hid (show RunsE _ _ _ from ⟨hR, he.out.below hb_wd⟩); have HM := Lib.hid hmm; clear hR)
  clear h hns hmm
  by_cases hy : adjOk (N : Int) rs = true ∧ 0 ≤ k ∧ k < m
  · obtain ⟨j, r, rfl, hj, hr⟩ := hasRun_nat (rs := rs) (k := k) ⟨hy.2.1, by have := HM.out; omega⟩
    obtain ⟨n, hNn⟩ : ∃ n, N = n + 1 := ⟨N - 1, by omega⟩
    obtain ⟨hw, hok⟩ := adj_true hy.1 hNn
    have hn := (whole_iff.1 hw).1
    have hD0 : 0 < dT n rs := dT_pos (by rw [← hNn]; exact hw) (by rw [← hNn]; exact hn)
    have hjm : j < m := by rw [← HM.out]; exact hj
    have hjm' : (j : Int) < (m : Int) := by omega
    have c1 := fun w h => Lib.hid (iRun_yes N n j (some ⟨B, 0, none⟩) c m rs r w h hy.1 HM.out hNn hr)
    have c2 := fun w h => Lib.hid (sRun_yes N n j (some ⟨B, 0, none⟩) c m rs r w h hy.1 HM.out hNn hr)
    cases hb : Quo.qO (hT n rs r.t.toNat - hT n rs r.f.toNat) (dT n rs)
    · obtain ⟨x, hx⟩ : ∃ x, vT (hT n rs r.t.toNat - hT n rs r.f.toNat) (dT n rs) = x := ⟨_, rfl⟩
      obtain ⟨y, hy'⟩ : ∃ x, vL (hT n rs r.t.toNat - hT n rs r.f.toNat) (dT n rs) = x := ⟨_, rfl⟩
      rw [hx, hy', hb] at c1 c2
      clear hy hr hNn hw hok hn hD0 hb hx hy'
      go_upto_region 5 with ((go_at_call 18; (with_reducible refine ((c1 _ ?_).out).mono ?_); (focus ((exact HR.out); done)); rintro e wi ⟨rfl, hb_wi⟩; have hs_wi := hb_wi.size; (try simp at hs_wi)))
      have hX := Cell2.new wi x y 36
      have hal : Below wi.heap.size wi (wi.alloc (.cells #[.int .i64 x, .int .i64 y] 36)) := (Below.refl _ _).alloc (Nat.le_refl _) _
      have hBd := hb_wi.trans (hal.mono hs_wi)
      obtain ⟨V, hV⟩ : ∃ V, V = wi.alloc (.cells #[.int .i64 x, .int .i64 y] 36) := ⟨_, rfl⟩
      obtain ⟨XV, hXe⟩ : ∃ X, X = wi.heap.size := ⟨_, rfl⟩
      rw [← hV] at hX hBd ⊢
      rw [← hXe] at hX ⊢
      have HV := Lib.hid (And.intro hX hBd)
      clear hal hX hBd hV hXe hb_wi hs_wi
      go_upto_region 6 with ((go_at_call 19; (with_reducible refine ((c2 _ ?_).out).mono ?_); (focus ((exact (HR.out.below HV.out.2).runs); done)); rintro e wi ⟨rfl, hb_wi⟩; have hs_wi := hb_wi.size; (try simp at hs_wi)))
      have hX := Cell2.new wi x y 36
      have hal : Below wi.heap.size wi (wi.alloc (.cells #[.int .i64 x, .int .i64 y] 36)) := (Below.refl _ _).alloc (Nat.le_refl _) _
      have hBd := hb_wi.trans (hal.mono hs_wi)
      obtain ⟨U, hV⟩ : ∃ V, V = wi.alloc (.cells #[.int .i64 x, .int .i64 y] 36) := ⟨_, rfl⟩
      obtain ⟨XU, hXe⟩ : ∃ X, X = wi.heap.size := ⟨_, rfl⟩
      rw [← hV] at hX hBd ⊢
      rw [← hXe] at hX ⊢
      have HU := Lib.hid (And.intro hX hBd)
      clear hal hX hBd hV hXe hb_wi hs_wi
      obtain ⟨x1, x2, x3, x4⟩ := HV.out.1.below HU.out.2
      obtain ⟨y1, y2, y3, y4⟩ := HU.out.1
      have hB : Below w.heap.size w U := hb_wd.trans ((HV.out.2.trans (HU.out.2.mono HV.out.2.size)).mono hs_wd)
      have HB := Lib.hid hB
      clear hB
      go_wp2_with fail
      exact bodyPost_ret (v := .bool true) (by simp [results, Tryz.results4, go_sem]) rfl ⟨rfl, HB.out⟩
    · obtain ⟨ha', hD', -⟩ := turn_adj hy.1 hNn hr
      obtain ⟨t1, t2, t3⟩ := turn_val hy.1 hNn hr hb
      have hrt : (rs.set j (turnR r))[j]? = some (turnR r) := by rw [List.getElem?_set, if_pos rfl, if_pos hj]
      have hlt : (rs.set j (turnR r)).length = m := by rw [List.length_set]; exact HM.out
      have cB : ∀ w, Runs w (some ⟨B, 0, none⟩) rs → Hid (Calls Tryz.prog 20 #[.int .i64 N, .slice (some ⟨B, 0, none⟩) m c, .int .i64 j] w fun e w' => ∃ g cap, e = .returned (.tuple #[.slice (some ⟨g, 0, none⟩) m cap, .bool true]) ∧ w.heap.size ≤ g ∧ Own w' g 42 4 m cap (flat (rs.set j (turnR r))) ∧ Below w.heap.size w w') := fun w h => Lib.hid (by
        have := iBack_yes (N : Int) (some ⟨B, 0, none⟩) c rs j r w h hn hr
        rw [HM.out] at this
        refine this.mono ?_
        rintro e w' ⟨v, he, g, cap, hv, hg, ho, hb⟩
        rw [hlt] at hv ho
        subst hv
        exact ⟨g, cap, he, hg, ho, hb⟩)
      have c5 := fun p c w h => Lib.hid (iRun_yes N n j p c m (rs.set j (turnR r)) (turnR r) w h ha' hlt hNn hrt)
      have c6 := fun (j : Nat) (r : Rn) (hr : rs[j]? = some r) w h => Lib.hid (iRun_yes N n j (some ⟨B, 0, none⟩) c m rs r w h hy.1 HM.out hNn hr)
      have hvl := v_low (N := hT n rs r.t.toNat - hT n rs r.f.toNat) (D := dT n rs)
      rw [t1, t2, t3] at c5
      rw [hb] at c1 c2
      obtain ⟨x, hx⟩ : ∃ x, vT (hT n rs r.t.toNat - hT n rs r.f.toNat) (dT n rs) = x := ⟨_, rfl⟩
      obtain ⟨y, hy'⟩ : ∃ x, vL (hT n rs r.t.toNat - hT n rs r.f.toNat) (dT n rs) = x := ⟨_, rfl⟩
      rw [hx, hy'] at c1 c2 c5
      rw [hx] at hvl
      have HD := Lib.hid (show dT n rs ≠ 0 by omega)
      have cL : ∀ w, Runs w (some ⟨B, 0, none⟩) rs → Hid (Calls Tryz.prog 21 #[.int .i64 N, .slice (some ⟨B, 0, none⟩) m c, .int .i64 j] w fun e w' => ∃ (q : Option Addr) (l cap : Nat) (b : Bool) (L : List Int), e = .returned (.tuple #[.slice q l cap, .bool b]) ∧ (b = true → IsL N rs L ∧ ∃ g, q = some ⟨g, 0, none⟩ ∧ w.heap.size ≤ g ∧ Own w' g 3 1 l cap L) ∧ (b = false → l = 0) ∧ Below w.heap.size w w') := fun w h => Lib.hid (by
        by_cases hbs : Beside N rs j
        · refine (iLoopOf_yes N m j (some ⟨B, 0, none⟩) c rs w h HM.out hbs).mono ?_
          rintro e w' ⟨g, l, cap, he, hg, ho, hb⟩
          exact ⟨_, l, cap, true, _, he, fun _ => ⟨loopT_is hw hj, g, rfl, hg, ho⟩, fun h => (by cases h), hb⟩
        · refine (iLoopOf_no N m j (some ⟨B, 0, none⟩) c rs w h HM.out (by omega) hbs).mono ?_
          rintro e w' ⟨he, hb⟩
          exact ⟨_, 0, 0, false, [], he, fun h => (by cases h), fun _ => rfl, hb⟩)
      clear hy hr hNn hw hok hn hD0 hb hx hy' ha' hD' t1 t2 t3 hrt hlt
      go_upto_region 5 with ((go_at_call 18; (with_reducible refine ((c1 _ ?_).out).mono ?_); (focus ((exact HR.out); done)); rintro e wi ⟨rfl, hb_wi⟩; have hs_wi := hb_wi.size; (try simp at hs_wi)))
      have hX := Cell2.new wi x y 36
      have hal : Below wi.heap.size wi (wi.alloc (.cells #[.int .i64 x, .int .i64 y] 36)) := (Below.refl _ _).alloc (Nat.le_refl _) _
      have hBd := hb_wi.trans (hal.mono hs_wi)
      obtain ⟨V, hV⟩ : ∃ V, V = wi.alloc (.cells #[.int .i64 x, .int .i64 y] 36) := ⟨_, rfl⟩
      obtain ⟨XV, hXe⟩ : ∃ X, X = wi.heap.size := ⟨_, rfl⟩
      rw [← hV] at hX hBd ⊢
      rw [← hXe] at hX ⊢
      have HV := Lib.hid (And.intro hX hBd)
      clear hal hX hBd hV hXe hb_wi hs_wi
      go_upto_region 6 with ((go_at_call 19; (with_reducible refine ((c2 _ ?_).out).mono ?_); (focus ((exact (HR.out.below HV.out.2).runs); done)); rintro e wi ⟨rfl, hb_wi⟩; have hs_wi := hb_wi.size; (try simp at hs_wi)))
      have hX := Cell2.new wi x y 36
      have hal : Below wi.heap.size wi (wi.alloc (.cells #[.int .i64 x, .int .i64 y] 36)) := (Below.refl _ _).alloc (Nat.le_refl _) _
      have hBd := hb_wi.trans (hal.mono hs_wi)
      obtain ⟨U, hV⟩ : ∃ V, V = wi.alloc (.cells #[.int .i64 x, .int .i64 y] 36) := ⟨_, rfl⟩
      obtain ⟨XU, hXe⟩ : ∃ X, X = wi.heap.size := ⟨_, rfl⟩
      rw [← hV] at hX hBd ⊢
      rw [← hXe] at hX ⊢
      have HU := Lib.hid (And.intro hX hBd)
      clear hal hX hBd hV hXe hb_wi hs_wi
      obtain ⟨x1, x2, x3, x4⟩ := HV.out.1.below HU.out.2
      obtain ⟨y1, y2, y3, y4⟩ := HU.out.1
      have hdU := HV.out.2.trans (HU.out.2.mono HV.out.2.size)
      have HRU := Lib.hid (HR.out.below hdU)
      have hBU := hb_wd.trans (hdU.mono hs_wd)
      have hsU := hBU.size
      have HBU := Lib.hid hBU
      have HXV := Lib.hid (HV.out.1.below HU.out.2)
      clear hdU hBU HR HV HU c1 c2 hb_wd
      go_upto_region 9 with ((go_at_call 20; (with_reducible refine ((cB _ ?_).out).mono ?_); (focus ((exact HRU.out.runs); done)); rintro e wb ⟨gb, cb, rfl, hgb, ob, hb_wb⟩; have hs_wb := hb_wb.size; (try simp at hs_wb)))
      have HOB := Lib.hid (And.intro ob (And.intro (HRU.out.below hb_wb) (HBU.out.trans (hb_wb.mono hsU))))
      have HXB := Lib.hid (HXV.out.below hb_wb)
      have hsB := HOB.out.2.2.size
      clear ob hb_wb cB x1 x2 x3 x4 y1 y2 y3 y4 HXV HBU HRU hgb
      go_upto_region 10 with ((go_at_call 18; (with_reducible refine ((c5 _ _ _ ?_).out).mono ?_); (focus ((exact ⟨HOB.out.1.runs, HOB.out.2.1.err⟩); done)); rintro e wi ⟨rfl, hb_wi⟩; have hs_wi := hb_wi.size; (try simp at hs_wi)))
      have hX := Cell2.new wi (-x) y 36
      have hal : Below wi.heap.size wi (wi.alloc (.cells #[.int .i64 (-x), .int .i64 y] 36)) := (Below.refl _ _).alloc (Nat.le_refl _) _
      have hBd := hb_wi.trans (hal.mono hs_wi)
      obtain ⟨T, hV⟩ : ∃ V, V = wi.alloc (.cells #[.int .i64 (-x), .int .i64 y] 36) := ⟨_, rfl⟩
      obtain ⟨XT, hXe⟩ : ∃ X, X = wi.heap.size := ⟨_, rfl⟩
      rw [← hV] at hX hBd ⊢
      rw [← hXe] at hX ⊢
      have HT := Lib.hid (And.intro hX hBd)
      clear hal hX hBd hV hXe hb_wi hs_wi
      have HRT := Lib.hid (And.intro (HOB.out.2.1.below HT.out.2) (HOB.out.2.2.trans (HT.out.2.mono hsB)))
      have HXT := Lib.hid (And.intro (HXB.out.below HT.out.2) HT.out.1)
      have hsT := HRT.out.2.size
      clear HOB HXB HT c5
      go_upto_region 11 with ((go_at_call 21; (with_reducible refine ((cL _ ?_).out).mono ?_); (focus ((exact HRT.out.1.runs); done)); rintro e wl ⟨q, l, cl, b, L, rfl, hlp, hl0, hb_wl⟩; have hs_wl := hb_wl.size; (try simp at hs_wl)))
      have HRL := Lib.hid (And.intro (HRT.out.1.below hb_wl) (HRT.out.2.trans (hb_wl.mono hsT)))
      have HXL := Lib.hid (And.intro (HXT.out.1.below hb_wl) (HXT.out.2.below hb_wl))
      have HLP := Lib.hid hlp
      have hsL := HRL.out.2.size
      clear hb_wl HRT HXT cL hlp
      go_upto_region 12 with (go_at_call 14; (with_reducible refine (whole_q _ _).mono ?_); rintro e wi ⟨rfl, hb_wi⟩; have hs_wi := hb_wi.size)
      have hX := Cell2.new wi 0 1 36
      have hal : Below wi.heap.size wi (wi.alloc (.cells #[.int .i64 0, .int .i64 1] 36)) := (Below.refl _ _).alloc (Nat.le_refl _) _
      have hBd := hb_wi.trans (hal.mono hs_wi)
      obtain ⟨R, hV⟩ : ∃ V, V = wi.alloc (.cells #[.int .i64 0, .int .i64 1] 36) := ⟨_, rfl⟩
      obtain ⟨S, hXe⟩ : ∃ X, X = wi.heap.size := ⟨_, rfl⟩
      rw [← hV] at hX hBd ⊢
      have hSb : wl.heap.size ≤ S := by rw [hXe]; exact hs_wi
      rw [← hXe] at hX ⊢
      have HS := Lib.hid (And.intro hX hBd)
      clear hal hX hBd hV hXe hb_wi hs_wi
      have HRS := Lib.hid (And.intro (HRL.out.1.below HS.out.2) (HRL.out.2.trans (HS.out.2.mono hsL)))
      have HXS := Lib.hid (And.intro (HXL.out.1.below HS.out.2) (HXL.out.2.below HS.out.2))
      have hsR := HRS.out.2.size
      have wx1 : IntKind.i64.wrap (0 - x) = -x := by rw [IntKind.wrap_i64]; omega
      have wx2 : IntKind.i64.wrap (-x) = -x := by rw [IntKind.wrap_i64]; omega
      cases b
      · obtain rfl := hl0 rfl
        go_wp2_with fail
        go_loopw [17] (fun i wr => i = .int .i64 0 ∧ R = wr) (fun _ _ => 0)
        case atStart => exact ⟨rfl, rfl⟩
        case round =>
          obtain ⟨rfl, rfl⟩ := hrel
          obtain ⟨x1, x2, x3, x4⟩ := HXS.out.1
          obtain ⟨y1, y2, y3, y4⟩ := HXS.out.2
          obtain ⟨s1, s2, s3, s4⟩ := HS.out.1
          have HBF := Lib.hid HRS.out.2
          clear HXS HRS HS HXL HRL HLP
          go_upto_region 24 with fail
          go_region
          all_goals
            go_wp2_with fail
            go_ret
            exact ⟨rfl, below_drew HBF.out⟩
      · obtain ⟨hIL, g, rfl, hgT, hoL⟩ := HLP.out rfl
        have hll := hoL.len
        have hlm := hIL.most
        have hgw := hoL.lt
        have HLL := Lib.hid (And.intro hIL (And.intro hoL hll))
        have HV0 : Hid (Quo.Val 0 1 (csm n rs (L.take 0)) (dT n rs)) := Lib.hid (by
          have v := Quo.Val.whole (x := 0) (by omega) (by omega) HD.out
          rw [Int.zero_mul] at v
          exact v)
        clear hIL hoL HLP
        go_wp2_with fail
        go_loopw [17] (fun i wr => ∃ (k : Nat) (sx sy : Int), k ≤ l ∧ i = .int .i64 k ∧ Cell2 wr S sx sy ∧ Quo.Val sx sy (csm n rs (L.take k)) (dT n rs) ∧ Below wl.heap.size wl wr) (fun i _ => l - (intOf i).toNat)
        case atStart => exact ⟨0, 0, 1, Nat.zero_le _, rfl, HS.out.1, HV0.out, HS.out.2⟩
        case round =>
          rename World => wr
          obtain ⟨k, sx, sy, hk, rfl, hcs, hval, hbr⟩ := hrel
          have hsr := hbr.size
          by_cases hlt2 : k < l
          · have hlt3 : (k : Int) < (l : Int) := by omega
            obtain ⟨z, hz⟩ : ∃ z, L[k]? = some z := ⟨_, List.getElem?_eq_getElem (by have := HLL.out.2.2; omega)⟩
            obtain ⟨j', r', hr', hmx, hz0, hz1, hz2, hdh⟩ := loop_run HLL.out.1 hz
            have cz := (HLL.out.2.1.below hbr).cells hz
            have c7 := fun w h => Lib.hid (c6 j' r' hr' w h).out
            have hct := csm_take (n := n) (rs := rs) hz
            obtain ⟨X, hX⟩ : ∃ X, hT n rs r'.t.toNat - hT n rs r'.f.toNat = X := ⟨_, rfl⟩
            rw [hX] at c7
            have hvl' := v_low (N := X) (D := dT n rs)
            have hvs : Quo.qO X (dT n rs) = true → Quo.Val (if z < 0 then -vT X (dT n rs) else vT X (dT n rs)) (vL X (dT n rs)) (dh n rs z) (dT n rs) := fun hq => by rw [hdh n, hX]; exact v_sign HD.out hq _
            obtain ⟨a, ha⟩ : ∃ a, vT X (dT n rs) = a := ⟨_, rfl⟩
            obtain ⟨e, he'⟩ : ∃ a, vL X (dT n rs) = a := ⟨_, rfl⟩
            obtain ⟨tq, htq⟩ : ∃ a, Quo.qO X (dT n rs) = a := ⟨_, rfl⟩
            rw [ha, he', htq] at c7
            rw [ha, he', htq] at hvs
            rw [ha] at hvl'
            have c8 := fun xs w => Lib.hid (iAdd_any sx sy xs e w)
            have HSTEP : Hid (∀ xs, xs = (if z < 0 then -a else a) → tq = true → Quo.gOk (Quo.both sx sy xs e) (sx * e + xs * sy) (sy * e) = true → Quo.Val (Quo.gT (Quo.both sx sy xs e) (sx * e + xs * sy) (sy * e)) (Quo.gL (Quo.both sx sy xs e) (sx * e + xs * sy) (sy * e)) (csm n rs (L.take (k + 1))) (dT n rs)) := Lib.hid (fun xs hxs h1 h2 => by
              subst hxs
              rw [hct]
              exact loop_step HD.out hval hvs rfl rfl rfl h1 h2)
            have HCS := Lib.hid (And.intro hcs (And.intro (HRL.out.1.below hbr) hbr))
            have wa1 : IntKind.i64.wrap (0 - a) = -a := by rw [IntKind.wrap_i64]; omega
            have wa2 : IntKind.i64.wrap (-a) = -a := by rw [IntKind.wrap_i64]; omega
            clear hz hr' hdh hct hX hvs ha he' htq hcs hval hbr c6
            go_upto_region 15 with fail
            go_region
            have hmx2 : (if z < -z then -z else z) - 1 = (j' : Int) := by rw [← hmx, Int.max_def]; split <;> split <;> omega
            obtain ⟨mz, hmz⟩ : ∃ q, (if z < -z then -z else z) = q := ⟨_, rfl⟩
            rw [hmz] at hmx2 ⊢
            rw [hmx2]
            have D0 : Below wr.heap.size wr wr.drew := below_drew (Below.refl _ _)
            refine gen_exitX (fun W => Cell2 W S sx sy ∧ RunsE W (some ⟨B, 0, none⟩) rs ∧ Below wl.heap.size wl W ∧ W.cell? ⟨g, k, none⟩ = some (.int .i64 z)) ⟨HCS.out.1.below D0, HCS.out.2.1.below D0, HCS.out.2.2.trans (D0.mono hsr), cell_below_keep D0 cz⟩ (fun V2 HV2' => ?_)
            have HV2 := Lib.hid HV2'
            clear D0 HV2' hmx2 hmx hmz cz HCS
            go_upto_region 17 with ((go_at_call 18; (with_reducible refine ((c7 _ ?_).out).mono ?_); (focus ((exact HV2.out.2.1); done)); rintro e wi ⟨rfl, hb_wi⟩; have hs_wi := hb_wi.size; (try simp at hs_wi)))
            have hX := Cell2.new wi a e 36
            have hal : Below wi.heap.size wi (wi.alloc (.cells #[.int .i64 a, .int .i64 e] 36)) := (Below.refl _ _).alloc (Nat.le_refl _) _
            have hBd := hb_wi.trans (hal.mono hs_wi)
            obtain ⟨V3, hV⟩ : ∃ V, V = wi.alloc (.cells #[.int .i64 a, .int .i64 e] 36) := ⟨_, rfl⟩
            obtain ⟨XA, hXe⟩ : ∃ X, X = wi.heap.size := ⟨_, rfl⟩
            rw [← hV] at hX hBd ⊢
            rw [← hXe] at hX ⊢
            have HV3 := Lib.hid (And.intro hX hBd)
            clear hal hX hBd hV hXe hb_wi hs_wi
            have HB3 := Lib.hid (And.intro (HV2.out.1.below HV3.out.2) (And.intro (HV2.out.2.1.below HV3.out.2) (HV2.out.2.2.1.trans (HV3.out.2.mono HV2.out.2.2.1.size))))
            have cz3 := cell_below_keep HV3.out.2 HV2.out.2.2.2
            have hs3 := HB3.out.2.2.size
            have hal : Below V3.heap.size V3 (V3.alloc (.cells #[.int .i64 a, .int .i64 e] 36)) := (Below.refl _ _).alloc (Nat.le_refl _) _
            have hnw := Cell2.new V3 a e 36
            have cz4 := cell_below_keep hal cz3
            obtain ⟨a1, a2, a3, a4⟩ := HV3.out.1
            have b1 := cell_below_keep hal a1
            have HN4 := Lib.hid (And.intro hnw hal)
            obtain ⟨n1, n2, n3, n4⟩ := hnw
            clear hal c7 HV2
            by_cases hzn : z < 0
            all_goals
              go_upto_region 20 with fail
              first
                | (refine gen_worldM (fun W => Cell2 W V3.heap.size (-a) e ∧ Below V3.heap.size V3 W) ⟨Cell2.new V3 (-a) e 36, (Below.refl _ _).alloc (Nat.le_refl _) _⟩ (fun V5 HV5' => ?_); obtain ⟨xs, hxs⟩ : ∃ q, q = -a := ⟨_, rfl⟩; rw [← hxs] at HV5'; have HXS2 : Hid (xs = (if z < 0 then -a else a)) := Lib.hid (by rw [hxs, if_pos hzn]))
                | (refine gen_worldM (fun W => Cell2 W V3.heap.size a e ∧ Below V3.heap.size V3 W) HN4.out (fun V5 HV5' => ?_); obtain ⟨xs, hxs⟩ : ∃ q, q = a := ⟨_, rfl⟩; rw [← hxs] at HV5'; have HXS2 : Hid (xs = (if z < 0 then -a else a)) := Lib.hid (by rw [hxs, if_neg hzn]))
              have hs5 := HV5'.2.size
              have HC5 := Lib.hid (And.intro (HB3.out.1.below HV5'.2) (HB3.out.2.2.trans (HV5'.2.mono hs3)))
              obtain ⟨z1, z2, z3, z4⟩ := HV5'.1
              obtain ⟨s1, s2, s3, s4⟩ := HC5.out.1
              have HST := Lib.hid (HSTEP.out xs HXS2.out)
              have c9 := fun w => Lib.hid (c8 xs w).out
              obtain ⟨sv, hsv⟩ : ∃ q, Quo.gOk (Quo.both sx sy xs e) (sx * e + xs * sy) (sy * e) = q := ⟨_, rfl⟩
              obtain ⟨x', hx'⟩ : ∃ q, Quo.gT (Quo.both sx sy xs e) (sx * e + xs * sy) (sy * e) = q := ⟨_, rfl⟩
              obtain ⟨y', hy'⟩ : ∃ q, Quo.gL (Quo.both sx sy xs e) (sx * e + xs * sy) (sy * e) = q := ⟨_, rfl⟩
              rw [hsv, hx', hy'] at HST c9
              clear hxs HXS2 hsv hx' hy' HV5' HSTEP c8 HB3 HN4 a1 a2 a3 a4 b1 n1 n2 n3 n4 cz3 cz4 hzn wa1 wa2
              go_upto_region 21 with ((go_at_call 16; (with_reducible refine ((c9 _).out).mono ?_); rintro e wi ⟨rfl, hb_wi⟩; have hs_wi := hb_wi.size; (try simp at hs_wi)))
              have hX := Cell2.new wi x' y' 36
              have hal : Below wi.heap.size wi (wi.alloc (.cells #[.int .i64 x', .int .i64 y'] 36)) := (Below.refl _ _).alloc (Nat.le_refl _) _
              have hBd := hb_wi.trans (hal.mono hs_wi)
              obtain ⟨V6, hV⟩ : ∃ V, V = wi.alloc (.cells #[.int .i64 x', .int .i64 y'] 36) := ⟨_, rfl⟩
              obtain ⟨XW, hXe⟩ : ∃ X, X = wi.heap.size := ⟨_, rfl⟩
              rw [← hV] at hX hBd ⊢
              rw [← hXe] at hX ⊢
              have HV6 := Lib.hid (And.intro hX hBd)
              clear hal hX hBd hV hXe hb_wi hs_wi
              have HB6 := Lib.hid (And.intro (HC5.out.1.below HV6.out.2) (HC5.out.2.trans (HV6.out.2.mono HC5.out.2.size)))
              have HBR := Lib.hid (HRL.out.2.trans (HB6.out.2.mono hsL))
              obtain ⟨w1, w2, w3, w4⟩ := HV6.out.1
              clear s1 s2 s3 s4 z1 z2 z3 z4 c9
              obtain ⟨s1, s2, s3, s4⟩ := HB6.out.1
              cases tq
              · go_wp2_with fail
                go_ret
                exact ⟨rfl, HBR.out⟩
              · cases sv
                · go_wp2_with fail
                  go_ret
                  exact ⟨rfl, HBR.out⟩
                · go_wp2_with fail
                  go_roundw
                  case rel => exact ⟨k + 1, x', y', by omega, by go_num, HB6.out.1.set x' y', HST.out rfl rfl, (HB6.out.2.setCell (p := ⟨S, 0, none⟩) hSb _).setCell (p := ⟨S, 1, none⟩) hSb _⟩
                  case measure => simp [intOf]; omega
          · obtain rfl : k = l := by omega
            have hta : L.take k = L := List.take_of_length_le (by have := HLL.out.2.2; omega)
            rw [hta, csm_loop HLL.out.1] at hval
            obtain ⟨rfl, rfl⟩ := Quo.zero_val hval
            obtain ⟨x1, x2, x3, x4⟩ := HXL.out.1.below hbr
            obtain ⟨y1, y2, y3, y4⟩ := HXL.out.2.below hbr
            obtain ⟨s1, s2, s3, s4⟩ := hcs
            have HBF := Lib.hid (HRL.out.2.trans (hbr.mono hsL))
            have hsF := HBF.out.size
            clear HXS HRS HS HXL HRL HLL hta hval hbr hlt2 c6 HV0 hl0
            go_upto_region 24 with fail
            go_region_held3 (fun W => W.cell? ⟨XT, 0, none⟩ = some (.int .i64 (-x)) ∧ W.cell? ⟨XV, 0, none⟩ = some (.int .i64 x) ∧ W.cell? ⟨XT, 1, none⟩ = some (.int .i64 y) ∧ W.cell? ⟨XV, 1, none⟩ = some (.int .i64 y) ∧ W.cell? ⟨S, 0, none⟩ = some (.int .i64 0) ∧ W.cell? ⟨S, 1, none⟩ = some (.int .i64 1)) (first | (go_keep; done) | (refine ⟨?_, ?_, ?_, ?_, ?_, ?_⟩ <;> (first | ((with_reducible refine cell_below_keep (by with_reducible assumption) ?_); with_reducible assumption) | ((with_reducible refine cell_set_keep _ ?_ ?_); (focus (dsimp only; omega)); (with_reducible refine cell_set_keep _ ?_ ?_); (focus (dsimp only; omega)); with_reducible assumption)))) (first | (go_at_call 14; (with_reducible refine (whole_q _ _).mono ?_); rintro e w1 ⟨rfl, hb_w1⟩; have hV1 : Below wr.heap.size wr w1 := (below_drew (Below.refl _ _)).trans hb_w1; have l1 := cell_below_keep hV1 x1; have l2 := cell_below_keep hV1 x2; have l3 := cell_below_keep hV1 y1; have l4 := cell_below_keep hV1 y2; have l5 := cell_below_keep hV1 s1; have l6 := cell_below_keep hV1 s2; have k1 := World.block_lt_of_cell? _ _ l1; have k2 := World.block_lt_of_cell? _ _ l3; have k3 := World.block_lt_of_cell? _ _ l5))
            all_goals
              have HBX := Lib.hid (HBF.out.trans (hV1.mono hsF))
              go_wp2_with fail
              go_ret
              exact ⟨rfl, HBX.out⟩
  · have c1 := fun w h => Lib.hid (iRun_no N k (some ⟨B, 0, none⟩) c m rs w h HM.out (by omega) hy)
    have c2 := fun w h => Lib.hid (sRun_no N k (some ⟨B, 0, none⟩) c m rs w h HM.out (by omega) hy)
    clear hy
    go_upto_region 5 with ((go_at_call 18; (with_reducible refine ((c1 _ ?_).out).mono ?_); (focus ((exact HR.out); done)); rintro e wi ⟨rfl, hb_wi⟩; have hs_wi := hb_wi.size; (try simp at hs_wi)))
    have hX := Cell2.new wi 0 0 36
    have hal : Below wi.heap.size wi (wi.alloc (.cells #[.int .i64 0, .int .i64 0] 36)) := (Below.refl _ _).alloc (Nat.le_refl _) _
    have hBd := hb_wi.trans (hal.mono hs_wi)
    obtain ⟨V, hV⟩ : ∃ V, V = wi.alloc (.cells #[.int .i64 0, .int .i64 0] 36) := ⟨_, rfl⟩
    obtain ⟨XV, hXe⟩ : ∃ X, X = wi.heap.size := ⟨_, rfl⟩
    rw [← hV] at hX hBd ⊢
    rw [← hXe] at hX ⊢
    have HV := Lib.hid (And.intro hX hBd)
    clear hal hX hBd hV hXe hb_wi hs_wi
    go_upto_region 6 with ((go_at_call 19; (with_reducible refine ((c2 _ ?_).out).mono ?_); (focus ((exact (HR.out.below HV.out.2).runs); done)); rintro e wi ⟨rfl, hb_wi⟩; have hs_wi := hb_wi.size; (try simp at hs_wi)))
    have hX := Cell2.new wi 0 0 36
    have hal : Below wi.heap.size wi (wi.alloc (.cells #[.int .i64 0, .int .i64 0] 36)) := (Below.refl _ _).alloc (Nat.le_refl _) _
    have hBd := hb_wi.trans (hal.mono hs_wi)
    obtain ⟨U, hV⟩ : ∃ V, V = wi.alloc (.cells #[.int .i64 0, .int .i64 0] 36) := ⟨_, rfl⟩
    obtain ⟨XU, hXe⟩ : ∃ X, X = wi.heap.size := ⟨_, rfl⟩
    rw [← hV] at hX hBd ⊢
    rw [← hXe] at hX ⊢
    have HU := Lib.hid (And.intro hX hBd)
    clear hal hX hBd hV hXe hb_wi hs_wi
    obtain ⟨x1, x2, x3, x4⟩ := HV.out.1.below HU.out.2
    obtain ⟨y1, y2, y3, y4⟩ := HU.out.1
    have hB : Below w.heap.size w U := hb_wd.trans ((HV.out.2.trans (HU.out.2.mono HV.out.2.size)).mono hs_wd)
    have HB := Lib.hid hB
    clear hB
    go_wp2_with fail
    exact bodyPost_ret (v := .bool true) (by simp [results, Tryz.results4, go_sem]) rfl ⟨rfl, HB.out⟩

set_option maxRecDepth 100000 in
theorem walk_long (len cap : Nat) (p : Option Addr) (w : World) (hl : 1048576 < len) :
    Calls Tryz.prog 4 #[.slice p len cap] w fun e w' => e = .returned (.bool true) ∧ Below w.heap.size w w' := by
  have hl' : (1048576 : Int) < (len : Int) := by omega
  go_enter Tryz.func4, Tryz.ntmps4
  go_wp2
  go_ret
  exact ⟨rfl, Below.refl _ _⟩

set_option maxRecDepth 100000 in
theorem contract (H : Type) (enc : TypeId × Value → H) (W : World) (base : Nat) (args : Array Value) (ds gs : List (DataW H)) (before : List MemPlace)
    (hval : ∀ (j : Nat) t v, Tryz.f4.params[j]? = some t → args[j]? = some v → Value.okWide Tryz.prog W .any base t v)
    (hW : DataW.Whole enc Tryz.prog Tryz.f4.params.toList Rows.fnAdjustRunSpec.vars false W args.toList ds gs before) (hL : laidMetH Tryz.prog Rows.fnAdjustRunRow.laid W) :
    Calls Tryz.prog 4 args W fun e W' => ∃ v, e = .returned v ∧ Rows.fnAdjustRunSpec.post enc Tryz.prog Tryz.f4 false true false false W args v W' := by
  have hL' : laidMet Tryz.prog Rows.fnAdjustRunRow.laid W := (MakeChecks.laidMetH_plain Tryz.prog Rows.fnAdjustRunRow.laid W (by kernel_rfl)) ▸ hL
  obtain ⟨ae, hve⟩ := err_laid hL'
  have hW' := hW
  obtain ⟨p, q, hA0, hV0, rfl, hfz, hnd⟩ := hW
  have hA : DataW.TrodAll enc Tryz.prog W 0 (fun _ => true) true Tryz.f4.params.toList args.toList ds p := hA0
  have hV : DataW.TrodVars enc Tryz.prog W (fun _ => true) ["loop.example/levellingnet/impl.errNoQuotients"] gs q := hV0
  rw [Tryz.params4] at hA hval
  obtain ⟨v0, vs0, d0, ds0, p0, q0, hargs, rfl, rfl, h0, r0⟩ := trodAll_cons hA
  obtain ⟨rfl, rfl, rfl⟩ := trodAll_nil r0
  obtain rfl : args = #[v0] := by cases args; simp_all
  obtain ⟨rfl, rfl⟩ := hV.unique (hve.reads enc _)
  obtain ⟨a0, len0, cap0, rfl⟩ := okWide_slice Tryz.underlying22 (hval 0 22 v0 rfl rfl)
  have k0 := h0
  have lt0 : ∀ x ∈ p0, x.block < W.heap.size := by obtain ⟨m, hm⟩ := k0; exact DataW.trod_lt m _ _ _ hm
  obtain ⟨z0, w0⟩ : ∃ zs, IsRow .u8 W a0 len0 cap0 zs := by
    obtain ⟨fuel, hf⟩ := h0
    rcases open_ints Tryz.underlying22 Tryz.underlying5 (by kernel_rfl) hf with ⟨hcs, _⟩ | ⟨x, l, c, zs, hcs, _, hl, hm, hz, _, hcell, hwz⟩
    · simp [Value.cells] at hcs
      obtain ⟨rfl, rfl, rfl⟩ := hcs
      exact ⟨[], .inl ⟨rfl, rfl, rfl, rfl⟩⟩
    · simp [Value.cells] at hcs
      obtain ⟨rfl, rfl, rfl⟩ := hcs
      exact ⟨zs, .inr ⟨_, rfl, hl, hm, by simpa using hz, hcell, hwz⟩⟩
  clear hA0 hV0
  have hw : Calls Tryz.prog 4 #[.slice a0 len0 cap0] W fun e w' => e = .returned (.bool true) ∧ Below W.heap.size W w' := by
    by_cases hl : len0 ≤ 1048576
    · exact walk len0 cap0 a0 W hl (Lib.hid (code_of_row w0 hl)) (Lib.hid hve.err)
    · exact walk_long len0 cap0 a0 W (by omega)
  refine hw.mono fun e W' ⟨he, bel⟩ => ?_
  subst he
  exact ⟨_, rfl, _, _, _, [], _, [.cell 0 0], hW', trodAll_mk1 (shut_bool Tryz.underlying4 _), (trodAll_cons_mk (Below.trod laidOut (by kernel_rfl) (of_decide_eq_true (by kernel_rfl)) k0 bel lt0) trodAll_mk0), (hve.below bel).reads enc _, bel.frame _, fun h => by cases h⟩

theorem laid_met (os : Os) : laidMet Tryz.prog Rows.fnAdjustRunRow.laid ((World.doorLaid Tryz.prog 400 os).forCall (fun _ _ => 0) ⟨#[], #[.slice none 0 0], []⟩).memory :=
  laidMet_of_run' 8 (by kernel_rfl) (by kernel_rfl)

set_option maxRecDepth 100000 in
theorem lifted (os : Os) (started : os.Started) (H : Type) (enc : TypeId × Value → H) (F : Stop.Interp) :
    ReturnsInHanded {} Tryz.checked os 4 .any ((OpenSpec.ofChange Rows.fnAdjustRunSpec).preRow enc Tryz.prog Tryz.f4 Rows.fnAdjustRunRow.domain false Rows.fnAdjustRunRow.laid) (((OpenSpec.ofChange Rows.fnAdjustRunSpec).at F).post enc Tryz.prog Tryz.f4 false true false false) := by
  refine returnsInHanded_of_row (C := Tryz.checked) (s := OpenSpec.ofChange Rows.fnAdjustRunSpec) own started (by kernel_rfl) Tryz.func4
    (witness_row_at (enc := enc) (C := Tryz.checked) false (World.doorLaid Tryz.prog 400 os) #[.slice none 0 0] rfl (by kernel_rfl) (by kernel_rfl) (by kernel_rfl)
      (OpenSpec.preRow_of_B rfl 8 (by kernel_rfl) (by kernel_rfl) (laid_met os))) ?_
  intro W base args ds gs before hval hW _ _ _ hL _ _
  exact contract H enc W base args ds gs before hval hW hL

theorem said : Rows.FnAdjustRunSaid :=
  OpenClaim.holds_of_cond 4 Tryz.f4 rfl rfl rfl rfl rfl rfl rfl ⟨rfl, rfl, rfl, rfl, rfl⟩ rfl rfl rfl rfl rfl (by kernel_rfl) Tryz.func4 (by kernel_rfl)
    (of_decide_eq_true (by kernel_rfl)) (by unfold Func.isWrapper; first | (rw [if_pos (by decide +kernel)]; kernel_rfl) | (rw [if_neg (by decide +kernel)]; exact ⟨rfl, rfl⟩))
    (fun os started H enc _ F => by rw [OpenClaim.pre_eq_preRow]; exact lifted os started H enc F)

theorem plain (f : FuncId) (fn : Func) (hf : Tryz.pinned.checked.prog.funcNamed "loop.example/levellingnet/laws.FnAdjustRun" = some f) (hfn : Tryz.pinned.checked.prog.funcs[f]? = some fn) :
    true = Tryz.pinned.checked.prog.looks [] ∧ ∀ (j : Nat) t, fn.params[j]? = some t → Tryz.pinned.checked.prog.wantsStandIn t = false := by
  obtain rfl : f = 4 := Option.some.inj ((show Tryz.prog.funcNamed "loop.example/levellingnet/laws.FnAdjustRun" = some 4 by kernel_rfl).symm.trans hf) |>.symm
  obtain rfl : fn = Tryz.f4 := (Option.some.inj (Tryz.func4.symm.trans hfn)).symm
  refine ⟨by kernel_rfl, fun j t ht => ?_⟩
  rw [Tryz.params4] at ht
  have hm : t ∈ [22] := by simpa using Array.mem_of_getElem? ht
  have hall : ([22].all fun u => !Tryz.prog.wantsStandIn u) = true := by kernel_rfl
  exact (show Tryz.prog.wantsStandIn t = false by simpa using List.all_eq_true.1 hall t hm)

theorem card : Rows.FnAdjustRunCardSaid :=
  Claim7.holds_tied_plain_at .later [] _ _ _ _ said (fun _ h => by cases h) (by kernel_rfl) (fun _ h => by cases h) fnAdjustRun_row_tie rfl ⟨rfl, rfl⟩ (by kernel_rfl) rfl plain (by kernel_rfl)
end Go.Proofs.YtoaomjchaihkaaaGreatDoor.fnAdjustRun

