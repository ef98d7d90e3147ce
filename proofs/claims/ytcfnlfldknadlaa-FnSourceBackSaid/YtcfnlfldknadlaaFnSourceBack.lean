/-
  For every code the law FnSourceBack returns true: impl.NetWithout answers as the reference model does; impl.NetSource of the net with the run turned is that of the net, and that of the net without it differs at its nodes by the weight times the rise, and nowhere else. No condition: every list of bytes is taken.
-/
import Derived.Test.YtcfnlfldknadlaaZn
import Derived.Test.YtcfnlfldknadlaaZp
import Derived.Test.YtcfnlfldknadlaaCode
import Derived.Test.YtcfnlfldknadlaaNz
import Derived.Test.YtcfnlfldknadlaaZc
namespace Go.Proofs.Ytcfnlfldknadlaa.fnSourceBack
open Go.ChangeShapes Go.WideShapes Go.ChangeAt Go.RowKit
set_option linter.unusedVariables false

theorem inc_turn (r : Rn) (i : Nat) : inc (turnR r) i = -inc r i := by unfold inc turnR; dsimp only; rw [Int.neg_sub]
theorem srcs_turn {rs : List Rn} {j : Nat} {r : Rn} (h : rs[j]? = some r) (i : Nat) : srcs (rs.set j (turnR r)) i = srcs rs i := by
  unfold srcs
  rw [lsm_set h]
  have e : (turnR r).g * (turnR r).s * inc (turnR r) i = r.g * r.s * inc r i := by
    rw [inc_turn, Int.mul_neg, ← Int.neg_mul]
    show -(r.g * -r.s) * inc r i = _
    rw [Int.mul_neg, Int.neg_neg]
  rw [e]; omega
theorem srcs_erase {rs : List Rn} {j : Nat} {r : Rn} (h : rs[j]? = some r) (i : Nat) : srcs rs i = r.g * r.s * inc r i + srcs (rs.eraseIdx j) i := lsm_erase h _
theorem turn_okS {n : Int} {rs : List Rn} {j : Nat} {r : Rn} (hn : nOk n rs = true) (hr : rs[j]? = some r) : nOk n (rs.set j (turnR r)) = true := by
  obtain ⟨h1, h2, h3, h4⟩ := nOk_true hn
  refine nOk_of h1 h2 (by simpa using h3) (fun i r' hi => ?_)
  rw [List.getElem?_set] at hi
  split at hi
  · split at hi
    · cases hi
      obtain ⟨a1, a2, a3, a4, a5, a6, a7, a8, a9⟩ := rOk_true (h4 j r hr)
      exact rOk_of a3 a4 a1 a2 (Ne.symm a5) (by simp [turnR]; omega) (by simp [turnR]; omega) a8 a9
    · cases hi
  · exact h4 i r' hi
theorem iBackQ {n : Int} {p : Option Addr} {c m : Nat} {rs : List Rn} {j : Nat} {r : Rn} (w : World) (h : Runs w p rs) (h1 : nOk n rs = true) (hm : rs.length = m) (hr : rs[j]? = some r) :
    Calls Try.prog 41 #[.int .i64 n, .slice p m c, .int .i64 j] w fun e w' => ∃ v, e = .returned (.tuple #[v, .bool true]) ∧ NewQ w m (rs.set j (turnR r)) v w' := by
  subst hm
  exact (iBack_yes n p c rs j r w h h1 hr).mono (fun e w' ⟨v, he, hv⟩ => ⟨v, he, hv.q (by simp)⟩)
set_option maxHeartbeats 8000000 in
set_option maxRecDepth 100000 in
theorem walk (len cap : Nat) (p : Option Addr) (w : World) (hl : len ≤ 1048576) (h : Hid (Code' w (.slice p len cap))) :
    Calls Try.prog 8 #[.slice p len cap] w fun e w' => e = .returned (.bool true) ∧ Below w.heap.size w w' := by
  have hl' : ¬ (1048576 : Int) < (len : Int) := by omega
  go_enter Try.func8, Try.ntmps8
  go_upto_region 4 with (go_at_call 39; (with_reducible refine (drawWithout_is _ _ h).mono ?_); rintro e wd ⟨N, m, rs, B, k, ⟨c, hmc, rfl⟩, hmm, ⟨⟨hN2, hN6⟩, hl8, hR, hb_wd⟩, hk1, hk2⟩; have hs_wd := hb_wd.size; have HR := Lib.hid hR; have HM := Lib.hid hmm; clear hR)
  have hm8 : m ≤ 8 := by omega
  clear h hl8 hmm
  by_cases hy : nOk (N : Int) rs = true ∧ 0 ≤ k ∧ k < m
  · obtain ⟨j, r, rfl, hj, hr⟩ := hasRun_nat (rs := rs) (k := k) ⟨hy.2.1, by have := HM.out; omega⟩
    have hn := hy.1
    obtain ⟨n, hNn⟩ : ∃ n, N = n + 1 := ⟨N - 1, by omega⟩
    have hro := rOk_true ((nOk_true hn).2.2.2 j r hr)
    have hjm : j < m := by have := hy.2.2; omega
    have hjm' : (j : Int) < (m : Int) := by omega
    have hm1 : (m : Int) - 1 = ((m - 1 : Nat) : Int) := by omega
    have hok2 := turn_okS hn hr
    have hok3 := erase_ok hn j
    have hel : (rs.eraseIdx j).length = m - 1 := by rw [List.length_eraseIdx, if_pos hj, HM.out]
    have htl : (rs.set j (turnR r)).length = m := by rw [List.length_set]; exact HM.out
    have hsT := fun i => srcs_turn hr i
    have hsE := fun i => srcs_erase hr i
    obtain ⟨ts, hts⟩ : ∃ ts, rs.set j (turnR r) = ts := ⟨_, rfl⟩
    obtain ⟨es, hes⟩ : ∃ es, rs.eraseIdx j = es := ⟨_, rfl⟩
    have c1 := fun w h => Lib.hid ((iWithout_yes N (some ⟨B, 0, none⟩) c m rs j w h hn HM.out hjm hmc).mono (fun e w' ⟨v, he, hv⟩ => (⟨v, he, hv.p hel⟩ : ∃ v, e = Ending.returned (.tuple #[v, .bool true]) ∧ NewP w (m - 1) (rs.eraseIdx j) v w')))
    have c2 := fun w h => Lib.hid ((sWithoutR_yes N (some ⟨B, 0, none⟩) c m rs j w h hn HM.out hjm hmc).mono (fun e w' ⟨v, he, hv⟩ => (⟨v, he, hv.q hel⟩ : ∃ v, e = Ending.returned (.tuple #[v, .bool true]) ∧ NewQ w (m - 1) (rs.eraseIdx j) v w')))
    have c3 := fun w h => Lib.hid (iBackQ (n := N) (p := some ⟨B, 0, none⟩) (c := c) w h hn HM.out hr)
    have c4 := fun w h => Lib.hid (iSource_yes N n (some ⟨B, 0, none⟩) c m rs w h hn HM.out hNn)
    rw [hts] at c3 hok2 htl hsT
    rw [hes] at c1 c2 hok3 hel hsE
    have c5 := fun p c w h => Lib.hid (iSource_yes N n p c m ts w h hok2 htl hNn)
    have c6 := fun p c w h => Lib.hid (iSource_yes N n p c (m - 1) es w h hok3 hel hNn)
    have eTS : rgL n (fun i => srcs ts (i + 1)) = rgL n (fun i => srcs rs (i + 1)) := rgL_congr (fun i _ => hsT (i + 1))
    rw [eTS] at c5
    obtain ⟨X, hX⟩ : ∃ X, rgL n (fun i => srcs rs (i + 1)) = X := ⟨_, rfl⟩
    obtain ⟨Z, hZ⟩ : ∃ Z, rgL n (fun i => srcs es (i + 1)) = Z := ⟨_, rfl⟩
    have hXl : X.length = n := by rw [← hX]; exact rgL_len _ _
    have hbx := srcs_low (rs := rs) (ok_runs hn) (nOk_true hn).2.2.1
    have hbz := srcs_low (rs := es) (ok_runs hok3) (nOk_true hok3).2.2.1
    rw [hX] at c4 c5
    rw [hZ] at c6
    obtain ⟨B', o', r', heq, hr', hBl, hG1, hG2, hG3, hG4⟩ := HR.out.at (i := j) hj
    cases heq
    obtain rfl : r = r' := by rw [hr] at hr'; cases hr'; rfl
    rw [Nat.zero_add] at hG1 hG2 hG3 hG4
    have HK := Lib.hid (And.intro hX (And.intro hZ (And.intro hsE (And.intro hbx (And.intro hbz (And.intro hel (And.intro hXl hNn)))))))
    clear hy hr hn hNn hok2 hok3 hel htl hsT hsE hts hes hX hZ hXl hbx hbz eTS hr'
    go_upto_region 12 with (first
      | ((go_at_call 29; (with_reducible refine ((c1 _ ?_).out).mono ?_); (focus ((exact HR.out); done)); rintro e wi ⟨v, rfl, pi, ci, rfl, oi, hb_wi⟩; have hs_wi := hb_wi.size; (try simp at hs_wi)); have OI := Lib.hid oi; clear oi)
      | ((go_at_call 40; (with_reducible refine ((c2 _ ?_).out).mono ?_); (focus ((exact HR.out.below hb_wi); done)); rintro e ws ⟨v, rfl, gs, cs, rfl, hgs, os, hb_ws⟩; have hs_ws := hb_ws.size; (try simp at hs_ws)); have OS := Lib.hid os; have hls := os.lt; clear os)
      | ((go_at_call 28; (with_reducible refine (sameRuns_is _ _ _ _ (m - 1) es _ ?_ ?_ HK.out.2.2.2.2.2.1 (by omega)).mono ?_); (focus ((exact (OI.out.below hb_ws).runs); done)); (focus ((exact OS.out.runs); done)); rintro e wt ⟨rfl, hb_wt⟩; have hs_wt := hb_wt.size; (try simp at hs_wt)))
      | ((go_at_call 41; (with_reducible refine ((c3 _ ?_).out).mono ?_); (focus ((exact HR.out.below (by repeat (first | assumption | exact Below.refl _ _ | (refine below_chain ?_ (by assumption) (by first | omega | (simp <;> omega) | simp)) | (refine Below.alloc ?_ (by first | omega | (simp <;> omega) | simp) _) | (apply below_drewN) | (apply below_drew) | (refine Below.setCell ?_ (by first | omega | (simp <;> omega) | simp) _)))); done)); rintro e wo ⟨v, rfl, go, co, rfl, hgo, oo, hb_wo⟩; have hs_wo := hb_wo.size; (try simp at hs_wo)); have OO := Lib.hid oo; have hlo := oo.lt; clear oo)
      | ((go_at_call 35; (with_reducible refine ((c4 _ ?_).out).mono ?_); (focus ((exact HR.out.below (by repeat (first | assumption | exact Below.refl _ _ | (refine below_chain ?_ (by assumption) (by first | omega | (simp <;> omega) | simp)) | (refine Below.alloc ?_ (by first | omega | (simp <;> omega) | simp) _) | (apply below_drewN) | (apply below_drew) | (refine Below.setCell ?_ (by first | omega | (simp <;> omega) | simp) _)))); done)); rintro e wx ⟨gx, cx, rfl, hgx, ox, hb_wx⟩; have hs_wx := hb_wx.size; (try simp at hs_wx)); have OX := Lib.hid ox; have hlx := ox.lt; clear ox)
      | ((go_at_call 35; (with_reducible refine ((c5 _ _ _ ?_).out).mono ?_); (focus ((exact (OO.out.below (by repeat (first | assumption | exact Below.refl _ _ | (refine below_chain ?_ (by assumption) (by first | omega | (simp <;> omega) | simp)) | (refine Below.alloc ?_ (by first | omega | (simp <;> omega) | simp) _) | (apply below_drewN) | (apply below_drew) | (refine Below.setCell ?_ (by first | omega | (simp <;> omega) | simp) _)))).runs); done)); rintro e wy ⟨gy, cy, rfl, hgy, oy, hb_wy⟩; have hs_wy := hb_wy.size; (try simp at hs_wy)); have OY := Lib.hid oy; have hly := oy.lt; clear oy)
      | ((go_at_call 35; (with_reducible refine ((c6 _ _ _ ?_).out).mono ?_); (focus ((exact (OI.out.below (by repeat (first | assumption | exact Below.refl _ _ | (refine below_chain ?_ (by assumption) (by first | omega | (simp <;> omega) | simp)) | (refine Below.alloc ?_ (by first | omega | (simp <;> omega) | simp) _) | (apply below_drewN) | (apply below_drew) | (refine Below.setCell ?_ (by first | omega | (simp <;> omega) | simp) _)))).runs); done)); rintro e wz ⟨gz, cz, rfl, hgz, oz, hb_wz⟩; have hs_wz := hb_wz.size; (try simp at hs_wz)); have OZ := Lib.hid oz; have hlz := oz.lt; clear oz))
    have hBd : Below wd.heap.size wd wz := (by repeat (first | assumption | exact Below.refl _ _ | (refine below_chain ?_ (by assumption) (by first | omega | (simp <;> omega) | simp)) | (refine Below.alloc ?_ (by first | omega | (simp <;> omega) | simp) _) | (apply below_drewN) | (apply below_drew) | (refine Below.setCell ?_ (by first | omega | (simp <;> omega) | simp) _)))
    have hBo : Below w.heap.size w wz := hb_wd.trans (hBd.mono hs_wd)
    have g1 := cell_below_keep hBd hG1
    have g2 := cell_below_keep hBd hG2
    have g3 := cell_below_keep hBd hG3
    have g4 := cell_below_keep hBd hG4
    have OXz := Lib.hid (OX.out.below (hb_wy.trans (hb_wz.mono hs_wy)))
    have OYz := Lib.hid (OY.out.below hb_wz)
    have hsw := hBo.size
    have HBo := Lib.hid hBo
    clear hb_wi hb_ws hb_wt hb_wo hb_wx hb_wy hb_wz hb_wd HR OI OS OO OX OY hBd hBo hG1 hG2 hG3 hG4 c1 c2 c3 c4 c5 c6
    obtain ⟨P, hP⟩ : ∃ P, r.g * r.s = P := ⟨_, rfl⟩
    have bP := abs_mul (a := r.g) (b := r.s) (x := 9) (y := 100000) (by omega) (by omega)
    rw [hP] at bP
    obtain ⟨P1, P2⟩ := bP
    have q1 : IntKind.i64.wrap (r.g * r.s) = P := by rw [hP, IntKind.wrap_i64]; omega
    go_upto_region 14 with fail
    obtain ⟨ww, hww⟩ : ∃ ww, ww = wz.alloc (.cells #[.int .i64 r.f, .int .i64 r.t, .int .i64 r.s, .int .i64 r.g] 35) := ⟨_, rfl⟩
    obtain ⟨R, hRe⟩ : ∃ R, R = wz.heap.size := ⟨_, rfl⟩
    have k1 : ww.cell? ⟨R, 0, none⟩ = some (.int .i64 r.f) := by rw [hww, hRe]; simp [go_sem]
    have k2 : ww.cell? ⟨R, 1, none⟩ = some (.int .i64 r.t) := by rw [hww, hRe]; simp [go_sem]
    have k3 : ww.cell? ⟨R, 2, none⟩ = some (.int .i64 r.s) := by rw [hww, hRe]; simp [go_sem]
    have k4 : ww.cell? ⟨R, 3, none⟩ = some (.int .i64 r.g) := by rw [hww, hRe]; simp [go_sem]
    have hAw : Below wz.heap.size wz ww := by rw [hww]; exact (Below.refl _ _).alloc (Nat.le_refl _) _
    have OXw := Lib.hid (OXz.out.below hAw)
    have OYw := Lib.hid (OYz.out.below hAw)
    have OZw := Lib.hid (OZ.out.below hAw)
    have HBw := Lib.hid (HBo.out.trans (hAw.mono hsw))
    have hsww := HBw.out.size
    rw [← hww, ← hRe]
    clear hww hRe hAw OXz OYz OZ HBo g1 g2 g3 g4
    go_loopw [19] (fun i wr => ∃ x : Nat, x ≤ n ∧ i = .int .i64 ((x : Int) + 1) ∧ Below ww.heap.size ww wr) (fun i _ => N - (intOf i).toNat)
    case atStart => exact ⟨0, Nat.zero_le _, rfl, Below.refl _ _⟩
    case round =>
      rename World => wr
      obtain ⟨x, hx, rfl, hbr⟩ := hrel
      have hNn := HK.out.2.2.2.2.2.2.2
      by_cases hlt : x < n
      · have hltN : (x : Int) + 1 < (N : Int) := by omega
        have hlt' : (x : Int) < (n : Int) := by omega
        have l1 := cell_below_keep hbr k1
        have l2 := cell_below_keep hbr k2
        have l3 := cell_below_keep hbr k3
        have l4 := cell_below_keep hbr k4
        have eX := (OXw.out.below hbr).cells (i := x) (z := srcs rs (x + 1)) (by rw [← HK.out.1]; exact rgL_at _ hlt)
        have eZ := (OZw.out.below hbr).cells (i := x) (z := srcs es (x + 1)) (by rw [← HK.out.2.1]; exact rgL_at _ hlt)
        have hd := HK.out.2.2.1 (x + 1)
        have ba := HK.out.2.2.2.1 (x + 1)
        have bb := HK.out.2.2.2.2.1 (x + 1)
        rw [hP] at hd
        obtain ⟨a, ha⟩ : ∃ a, srcs rs (x + 1) = a := ⟨_, rfl⟩
        obtain ⟨b, hb⟩ : ∃ b, srcs es (x + 1) = b := ⟨_, rfl⟩
        rw [ha] at eX hd ba
        rw [hb] at eZ hd bb
        obtain ⟨a1, a2⟩ := ba
        obtain ⟨b1, b2⟩ := bb
        have HBr := Lib.hid hbr
        clear ha hb hbr hNn
        by_cases hT : r.t = (x : Int) + 1
        · have hi : inc r (x + 1) = 1 := by unfold inc; rw [if_pos (by omega), if_neg (by omega)]; rfl
          rw [hi, Int.mul_one] at hd
          have hF : ¬ (x : Int) + 1 = r.f := by omega
          rw [hT] at l2
          subst hd
          have q2 : IntKind.i64.wrap (P + b - b) = P := by rw [IntKind.wrap_i64]; omega
          go_wp2_with fail
          go_region
          go_wp2_with fail
          go_roundw
          case rel => exact ⟨x + 1, by omega, by go_num, below_drew HBr.out⟩
          case measure => simp [intOf]; omega
        · have hT' : ¬ (x : Int) + 1 = r.t := by omega
          by_cases hF : r.f = (x : Int) + 1
          · have hi : inc r (x + 1) = -1 := by unfold inc; rw [if_neg (by omega), if_pos (by omega)]; rfl
            rw [hi, Int.mul_neg, Int.mul_one] at hd
            rw [hF] at l1
            subst hd
            have q2 : IntKind.i64.wrap (-P + b - b) = -P := by rw [IntKind.wrap_i64]; omega
            have q3 : IntKind.i64.wrap (0 - P) = -P := by rw [IntKind.wrap_i64]; omega
            go_wp2_with fail
            go_region
            go_wp2_with fail
            go_roundw
            case rel => exact ⟨x + 1, by omega, by go_num, below_drew HBr.out⟩
            case measure => simp [intOf]; omega
          · have hF' : ¬ (x : Int) + 1 = r.f := by omega
            have hi : inc r (x + 1) = 0 := by unfold inc; rw [if_neg (by omega), if_neg (by omega)]; rfl
            rw [hi, Int.mul_zero, Int.zero_add] at hd
            subst hd
            go_wp2_with fail
            go_region
            go_wp2_with fail
            go_roundw
            case rel => exact ⟨x + 1, by omega, by go_num, below_drew HBr.out⟩
            case measure => simp [intOf]; omega
      · have e : x = n := by omega
        subst e
        have hNx : ¬ (x : Int) + 1 < (N : Int) := by omega
        have hx5 : x ≤ 1048576 := by omega
        have HBr := Lib.hid (HBw.out.trans (hbr.mono hsww))
        have hsr := HBr.out.size
        have OXr := Lib.hid (OXw.out.below hbr)
        have OYr := Lib.hid (OYw.out.below hbr)
        clear hbr hNn
        go_wp2_with ((go_at_call 37; (with_reducible refine (sameI_at HK.out.2.2.2.2.2.2.1 _ _ _ _ _ ?_ ?_ (by omega)).mono ?_); (focus ((exact OXr.out.ints); done)); (focus ((exact OYr.out.ints); done)); rintro e wf ⟨rfl, hb_wf⟩; have hs_wf := hb_wf.size; (try simp at hs_wf)))
        exact bodyPost_ret (v := .bool true) (by simp [results, Try.results8, go_sem]) rfl ⟨rfl, HBr.out.trans (hb_wf.mono hsr)⟩
  · have c1 := fun w h => Lib.hid (iWithout_no N k (some ⟨B, 0, none⟩) c m rs w h HM.out (by omega) hy)
    have c2 := fun w h => Lib.hid (sWithoutR_no N k (some ⟨B, 0, none⟩) c m rs w h HM.out (by omega) hy)
    clear hy
    go_wp2_with (first
      | (go_at_call 29; (with_reducible refine ((c1 _ ?_).out).mono ?_); (focus ((exact HR.out); done)); rintro e wi ⟨⟨qi, di, rfl⟩, hb_wi⟩; have hs_wi := hb_wi.size; (try simp at hs_wi))
      | (go_at_call 40; (with_reducible refine ((c2 _ ?_).out).mono ?_); (focus ((exact HR.out.below hb_wi); done)); rintro e ws ⟨⟨qs, rfl⟩, hb_ws⟩; have hs_ws := hb_ws.size; (try simp at hs_ws))
      | (go_at_call 28; (with_reducible refine (sameRuns_nil _ _ _ _ _).mono ?_); rintro e wt ⟨rfl, hb_wt⟩; have hs_wt := hb_wt.size; (try simp at hs_wt)))
    exact bodyPost_ret (v := .bool true) (by simp [results, Try.results8, go_sem]) rfl ⟨rfl, (by repeat (first | assumption | exact Below.refl _ _ | (refine below_chain ?_ (by assumption) (by first | omega | (simp <;> omega) | simp)) | (refine Below.alloc ?_ (by first | omega | (simp <;> omega) | simp) _) | (apply below_drewN) | (apply below_drew) | (refine Below.setCell ?_ (by first | omega | (simp <;> omega) | simp) _)))⟩

set_option maxRecDepth 100000 in
theorem walk_long (len cap : Nat) (p : Option Addr) (w : World) (hl : 1048576 < len) :
    Calls Try.prog 8 #[.slice p len cap] w fun e w' => e = .returned (.bool true) ∧ Below w.heap.size w w' := by
  have hl' : (1048576 : Int) < (len : Int) := by omega
  go_enter Try.func8, Try.ntmps8
  go_wp2
  go_ret
  exact ⟨rfl, Below.refl _ _⟩

set_option maxRecDepth 100000 in
theorem lifted (os : Os) (started : os.Started) (H : Type) (enc : TypeId × Value → H) :
    ReturnsInHanded {} Try.checked os 8 .any (Rows.fnSourceBackSpec.pre6 enc Try.prog Try.f8 Rows.fnSourceBackRow.domain false) (Rows.fnSourceBackSpec.post enc Try.prog Try.f8 false true false false) := by
  refine returnsInHanded_of_change (C := Try.checked) own started (by kernel_rfl) Try.func8
    (ChangeSpec.witness6 (enc := enc) (C := Try.checked) false ⟨#[], #[.slice none 0 0], []⟩ 8 (by kernel_rfl) (by kernel_rfl) (by kernel_rfl) (by kernel_rfl)) ?_
  intro W base args ds gs before hval0 hW hcnd _
  have hval : ∀ (j : Nat) t v, Try.f8.params[j]? = some t → args[j]? = some v → Value.okWide Try.prog W .any base t v := hval0
  have hW' := hW
  obtain ⟨p, q, hA0, hV, rfl, hfz, hnd⟩ := hW
  have hA : DataW.TrodAll enc Try.prog W 0 (fun _ => true) true Try.f8.params.toList args.toList ds p := hA0
  rw [Try.params8] at hA hval
  obtain ⟨v0, vs0, d0, ds0, p0, q0, hargs, rfl, rfl, h0, r0⟩ := trodAll_cons hA
  obtain ⟨rfl, rfl, rfl⟩ := trodAll_nil r0
  obtain rfl : args = #[v0] := by cases args; simp_all
  obtain ⟨rfl, rfl⟩ := trodVars_none hV
  obtain ⟨a0, len0, cap0, rfl⟩ := okWide_slice Try.underlying22 (hval 0 22 v0 rfl rfl)
  have k0 := h0
  have lt0 : ∀ x ∈ p0, x.block < W.heap.size := by obtain ⟨m, hm⟩ := k0; exact DataW.trod_lt m _ _ _ hm
  obtain ⟨z0, w0⟩ : ∃ zs, IsRow .u8 W a0 len0 cap0 zs := by
    obtain ⟨fuel, hf⟩ := h0
    rcases open_ints Try.underlying22 Try.underlying5 (by kernel_rfl) hf with ⟨hcs, _⟩ | ⟨x, l, c, zs, hcs, _, hl, hm, hz, _, hcell, hwz⟩
    · simp [Value.cells] at hcs
      obtain ⟨rfl, rfl, rfl⟩ := hcs
      exact ⟨[], .inl ⟨rfl, rfl, rfl, rfl⟩⟩
    · simp [Value.cells] at hcs
      obtain ⟨rfl, rfl, rfl⟩ := hcs
      exact ⟨zs, .inr ⟨_, rfl, hl, hm, by simpa using hz, hcell, hwz⟩⟩
  clear hA0 hval0
  have hw : Calls Try.prog 8 #[.slice a0 len0 cap0] W fun e w' => e = .returned (.bool true) ∧ Below W.heap.size W w' := by
    by_cases hl : len0 ≤ 1048576
    · exact walk len0 cap0 a0 W hl (Lib.hid (code_of_row w0 hl))
    · exact walk_long len0 cap0 a0 W (by omega)
  refine hw.mono fun e W' ⟨he, bel⟩ => ?_
  subst he
  exact ⟨_, rfl, _, _, _, [], _, [], hW', trodAll_mk1 (shut_bool Try.underlying4 _), (trodAll_cons_mk (Below.trod laidOut (by kernel_rfl) (of_decide_eq_true (by kernel_rfl)) k0 bel lt0) trodAll_mk0), rfl, bel.frame _, fun h => by cases h⟩

theorem over : Rows.fnSourceBackRow.holds Try.pinned (OpenSpec.ofChange Rows.fnSourceBackSpec) :=
  OpenClaim.holds_of_wide 8 Try.f8 rfl rfl rfl rfl rfl rfl rfl ⟨rfl, rfl, rfl, rfl, rfl⟩ rfl rfl rfl rfl rfl (by kernel_rfl) Try.func8 (by kernel_rfl)
    (of_decide_eq_true (by kernel_rfl)) (by unfold Func.isWrapper; first | (rw [if_pos (by decide +kernel)]; kernel_rfl) | (rw [if_neg (by decide +kernel)]; exact ⟨rfl, rfl⟩))
    (fun os started H enc _ => lifted os started H enc)

theorem proved : Rows.FnSourceBackSaid := over
end Go.Proofs.Ytcfnlfldknadlaa.fnSourceBack

