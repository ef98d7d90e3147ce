/-
  For every two codes the law FnSource returns true: impl.NetSource answers as the reference model does; where the heights fit the runs, the source is the matrix of the net times the heights over node 0. No condition: every two lists of bytes are taken.
-/
import Derived.Test.YtcfnlfldknadlaaZn
import Derived.Test.YtcfnlfldknadlaaZe
import Derived.Test.YtcfnlfldknadlaaZj
import Derived.Test.YtcfnlfldknadlaaZk
import Derived.Test.YtcfnlfldknadlaaZp
import Derived.Test.YtcfnlfldknadlaaCode
import Derived.Test.YtcfnlfldknadlaaNz
import Derived.Test.YtcfnlfldknadlaaZa
import Derived.Test.YtcfnlfldknadlaaZc
namespace Go.Proofs.Ytcfnlfldknadlaa.fnSource
open Go.ChangeShapes Go.WideShapes Go.ChangeAt Go.RowKit
set_option linter.unusedVariables false

theorem low_atS {hs : List Int} (hl : Low hs) (x : Int) : 0 ≤ htAt hs x ∧ htAt hs x < 50 := by
  unfold htAt
  cases h : hs[x.toNat]? with
  | none => simp
  | some z => exact hl _ _ h
theorem fit_okS {N : Int} {rs : List Rn} {hs : List Int} (hn : nOk N rs = true) (hl : Low hs) : nOk N (rs.map (fitOne hs)) = true := by
  obtain ⟨h1, h2, h3, h4⟩ := nOk_true hn
  refine nOk_of h1 h2 (by simpa using h3) (fun i r hi => ?_)
  rw [List.getElem?_map] at hi
  obtain ⟨x, hx, rfl⟩ := Option.map_eq_some_iff.1 hi
  obtain ⟨a1, a2, a3, a4, a5, a6, a7, a8, a9⟩ := rOk_true (h4 i x hx)
  have b1 := low_atS hl x.t
  have b2 := low_atS hl x.f
  exact rOk_of a1 a2 a3 a4 a5 (by simp [fitOne]; omega) (by simp [fitOne]; omega) a8 a9
theorem lsm_map (rs : List Rn) (φ : Rn → Rn) (F : Rn → Int) : lsm (rs.map φ) F = lsm rs (fun r => F (φ r)) := by
  induction rs with
  | nil => rfl
  | cons r rs ih => simp only [List.map_cons, lsm, ih]
theorem lap0_fit (rs : List Rn) (hs : List Int) : lap0 (rs.map (fitOne hs)) = lap0 rs := by
  funext i j
  exact lsm_map rs (fitOne hs) _
theorem ok_InN {N n : Nat} {rs : List Rn} (hn : nOk (N : Int) rs = true) (hNn : N = n + 1) : InN (n + 1) rs := fun r hr => by
  obtain ⟨k, hk⟩ := List.getElem?_of_mem hr
  have := rOk_true ((nOk_true hn).2.2.2 k r hk)
  subst hNn
  exact ⟨this.1, this.2.1, this.2.2.1, this.2.2.2.1⟩
/-- the heights over node 0 -/
def ovr (hs : List Int) (j : Nat) : Int := htAt hs ((j + 1 : Nat) : Int) - htAt hs 0
theorem apL_fit {N n : Nat} {rs : List Rn} {hs : List Int} (hn : nOk (N : Int) rs = true) (hNn : N = n + 1) (hl : Low hs) :
    apL n (mkL n (lap0 rs)) (rgL n (ovr hs)) = rgL n (fun i => srcs (rs.map (fitOne hs)) (i + 1)) := by
  have hin := ok_InN (fit_okS hn hl) hNn
  unfold apL
  show rgL n _ = _
  refine rgL_congr (fun i hi => ?_)
  have h := srcs_heights hin (fun k => htAt hs (k : Int)) (fun r hr => by
    obtain ⟨r', hr', rfl⟩ := List.mem_map.1 hr
    have h2 := hin _ hr
    have a1 : ((fitOne hs r').f.toNat : Int) = (fitOne hs r').f := by omega
    have a2 : ((fitOne hs r').t.toNat : Int) = (fitOne hs r').t := by omega
    show _ = htAt hs _ - htAt hs _
    rw [a1, a2]; rfl) i
  rw [h, lap0_fit]
  refine sm_congr (fun j hj => ?_)
  rw [ent_mkL hi hj, num_at (rgL_at (ovr hs) hj)]
  rfl
theorem own_tailS {w : World} {g N : Nat} {L zs : List Int} (h : Own w g 3 1 N N L) (e : L.drop 1 = zs) : Ints w (some ⟨g, 1, none⟩) zs := by
  subst e
  refine .inr ⟨g, 1, rfl, h.lt, fun i z hi => ?_⟩
  rw [List.getElem?_drop] at hi
  exact h.cells hi
theorem drop_rgLS (n : Nat) (f : Nat → Int) : (rgL (n + 1) f).drop 1 = rgL n (fun i => f (i + 1)) := by
  refine List.ext_getElem? (fun i => ?_)
  rw [List.getElem?_drop]
  by_cases h : i < n
  · rw [rgL_at _ h, Nat.add_comm 1 i, rgL_at _ (by omega)]
  · rw [List.getElem?_eq_none (by rw [rgL_len]; omega), List.getElem?_eq_none (by rw [rgL_len]; omega)]
theorem one_drewS (w : World) (a : Int) (t : TypeId) : ∀ (j : Nat) (y : Int), [a][j]? = some y → (w.alloc (.cells #[.int .i64 a] t)).drew.cell? ((⟨w.heap.size, 0, none⟩ : Addr).add j) = some (.int .i64 y) := one_cell w a t
theorem rgL_snoc (n : Nat) (f : Nat → Int) : rgL n f ++ [f n] = rgL (n + 1) f := by unfold rgL; rw [List.range_succ, List.map_append]; rfl

set_option maxHeartbeats 8000000 in
set_option maxRecDepth 100000 in
theorem walk (len cap : Nat) (p : Option Addr) (len2 cap2 : Nat) (p2 : Option Addr) (w : World) (hl : len ≤ 1048576) (hl2 : len2 ≤ 1048576) (h : Hid (Code' w (.slice p len cap))) (h2 : Hid (Code' w (.slice p2 len2 cap2))) :
    Calls Try.prog 7 #[.slice p len cap, .slice p2 len2 cap2] w fun e w' => e = .returned (.bool true) ∧ Below w.heap.size w w' := by
  have hl' : ¬ (1048576 : Int) < (len : Int) := by omega
  have hl2' : ¬ (1048576 : Int) < (len2 : Int) := by omega
  clear h2
  go_enter Try.func7, Try.ntmps7
  go_upto_region 4 with (go_at_call 34; (with_reducible refine (drawSource_is _ _ h).mono ?_); rintro e wd ⟨N, m, rs, B, ⟨c, hmc, rfl⟩, hmm, ⟨⟨hN2, hN6⟩, hl8, hR, hb_wd⟩⟩; have hs_wd := hb_wd.size; have HR := Lib.hid hR; have HM := Lib.hid hmm; clear hR)
  have hm8 : m ≤ 8 := by omega
  clear h hl8 hmm
  cases hn : nOk (N : Int) rs
  · have c1 := fun w h => Lib.hid (iSource_no N (some ⟨B, 0, none⟩) c m rs w h HM.out (by omega) hn)
    have c2 := fun w h => Lib.hid (sSource_no N (some ⟨B, 0, none⟩) c m rs w h HM.out (by omega) hn)
    clear hn
    go_wp2_with (first
      | (go_at_call 35; (with_reducible refine ((c1 _ ?_).out).mono ?_); (focus ((exact HR.out); done)); rintro e wi ⟨⟨qi, di, rfl⟩, hb_wi⟩; have hs_wi := hb_wi.size; (try simp at hs_wi))
      | (go_at_call 36; (with_reducible refine ((c2 _ ?_).out).mono ?_); (focus ((exact HR.out.below hb_wi); done)); rintro e ws ⟨⟨qs, rfl⟩, hb_ws⟩; have hs_ws := hb_ws.size; (try simp at hs_ws))
      | (go_at_call 37; (with_reducible refine (sameI_nil _ _ _ _ _).mono ?_); rintro e wt ⟨rfl, hb_wt⟩; have hs_wt := hb_wt.size; (try simp at hs_wt)))
    exact bodyPost_ret (v := .bool true) (by simp [results, Try.results7, go_sem]) rfl ⟨rfl, (by repeat (first | assumption | exact Below.refl _ _ | (refine below_chain ?_ (by assumption) (by first | omega | (simp <;> omega) | simp)) | (refine Below.alloc ?_ (by first | omega | (simp <;> omega) | simp) _) | (apply below_drewN) | (apply below_drew) | (refine Below.setCell ?_ (by first | omega | (simp <;> omega) | simp) _)))⟩
  · obtain ⟨n, hNn⟩ : ∃ n, N = n + 1 := ⟨N - 1, by omega⟩
    have hn5 : n ≤ 5 := by omega
    have hn1 : 1 ≤ n := by omega
    obtain ⟨L, hL⟩ : ∃ L, rgL N (srcs rs) = L := ⟨_, rfl⟩
    obtain ⟨zs, hzs⟩ : ∃ zs, rgL n (fun i => srcs rs (i + 1)) = zs := ⟨_, rfl⟩
    have hzl : zs.length = n := by rw [← hzs]; exact rgL_len _ _
    have hd : Hid (L.drop 1 = zs) := Lib.hid (by rw [← hL, ← hzs, hNn]; exact drop_rgLS n (srcs rs))
    obtain ⟨M, hM⟩ : ∃ M, mkL n (lap0 rs) = M := ⟨_, rfl⟩
    have hMl : M.length = n := by rw [← hM]; exact mkL_len
    have hsm := lap0_small n (fun r hr => ⟨(ok_runs hn r hr).1, (ok_runs hn r hr).2.1, (ok_runs hn r hr).2.2.1⟩) (nOk_true hn).2.2.1
    have hMok : matOk M = true := by rw [← hM]; exact (mkL_ok hn1 hn5).2 hsm
    have c1 := fun w h => Lib.hid (iSource_yes N n (some ⟨B, 0, none⟩) c m rs w h hn HM.out hNn)
    have c2 := fun w h => Lib.hid (sSource_yes N (some ⟨B, 0, none⟩) c m rs w h hn HM.out)
    have c3 := fun g cap hs (hlow : Low hs) w h => Lib.hid (iSource_yes N n (some ⟨g, 0, none⟩) cap m (rs.map (fitOne hs)) w h (fit_okS hn hlow) (by rw [List.length_map]; exact HM.out) hNn)
    have c4 := fun w h => Lib.hid (iMatrix_yes N n (some ⟨B, 0, none⟩) c m rs w h hn HM.out hNn)
    have c5 := fun hs (hlow : Low hs) p q cap d w h hq => Lib.hid (iMatApply_yes n cap d p q M (rgL n (ovr hs)) w h hq hMl ⟨hMok, by rw [rgL_len, hMl], fun x hx => by
      obtain ⟨i, hi, rfl⟩ := List.mem_map.1 hx
      have b1 := low_atS hlow ((i + 1 : Nat) : Int)
      have b2 := low_atS hlow 0
      unfold ovr; omega⟩)
    have c6 := fun hs (hlow : Low hs) => apL_fit hn hNn hlow
    have c7 := fun q d hs w h hh hN hlow => Lib.hid (fit_is B 0 c m q d N rs hs w h hh HM.out (by omega) hn hN hlow)
    rw [hzs] at c1
    rw [hL, show N - 1 = n by omega] at c2
    rw [hM] at c4 c6
    have HK := Lib.hid (And.intro hn hNn)
    have hn3 : n ≤ 1048576 := by omega
    have qN : IntKind.i64.wrap ((N : Int) - 1) = (n : Int) := by rw [IntKind.wrap_i64]; omega
    clear hM hn hMl hMok hsm hNn hL hzs
    go_upto_region 8 with (first
      | (go_at_call 35; (with_reducible refine ((c1 _ ?_).out).mono ?_); (focus ((exact HR.out); done)); rintro e wi ⟨gi, ci, rfl, hgi, oi, hb_wi⟩; have hs_wi := hb_wi.size; (try simp at hs_wi))
      | (go_at_call 36; (with_reducible refine ((c2 _ ?_).out).mono ?_); (focus ((exact HR.out.below hb_wi); done)); rintro e ws ⟨gs, rfl, hgs, os, hb_ws⟩; have hs_ws := hb_ws.size; (try simp at hs_ws))
      | (go_at_call 37; (with_reducible refine (sameI_at hzl _ _ _ _ _ ?_ ?_ hn3).mono ?_); (focus ((exact (oi.below hb_ws).ints); done)); (focus ((exact own_tailS os hd.out); done)); rintro e wt ⟨rfl, hb_wt⟩; have hs_wt := hb_wt.size; (try simp at hs_wt)))
    have hBt : Below wd.heap.size wd wt := (by repeat (first | assumption | exact Below.refl _ _ | (refine below_chain ?_ (by assumption) (by first | omega | (simp <;> omega) | simp)) | (refine Below.alloc ?_ (by first | omega | (simp <;> omega) | simp) _) | (apply below_drewN) | (apply below_drew) | (refine Below.setCell ?_ (by first | omega | (simp <;> omega) | simp) _)))
    have hBwt : Below w.heap.size w wt := (by repeat (first | assumption | exact Below.refl _ _ | (refine below_chain ?_ (by assumption) (by first | omega | (simp <;> omega) | simp)) | (refine Below.alloc ?_ (by first | omega | (simp <;> omega) | simp) _) | (apply below_drewN) | (apply below_drew) | (refine Below.setCell ?_ (by first | omega | (simp <;> omega) | simp) _)))
    have hsdt := hBt.size
    have hswt := hBwt.size
    have HRt := Lib.hid (HR.out.below hBt)
    have HBt := Lib.hid hBwt
    clear oi os HR hb_wd hb_wi hb_ws hb_wt hBt hBwt c1 c2
    go_upto_region 9 with ((go_at_call 31; (with_reducible refine (some_is N len2 _ hN6 hl2).mono ?_); rintro e wh ⟨gh, ch, hs, rfl, hhl, hlow, hgh, oh, hb_wh⟩; have hs_wh := hb_wh.size; (try simp at hs_wh)))
    have OH := Lib.hid oh
    have HLo := Lib.hid (And.intro hhl hlow)
    clear oh hhl hlow
    go_upto_region 10 with (first
      | (go_at_call 32; (with_reducible refine ((c7 _ _ _ _ ?_ ?_ HLo.out.1 HLo.out.2).out).mono ?_); (focus ((exact HRt.out.below hb_wh); done)); (focus ((exact OH.out.ints); done)); rintro e wf ⟨gf, cf, rfl, hgf, of, hb_wf⟩; have hs_wf := hb_wf.size; (try simp at hs_wf))
      | (go_at_call 35; (with_reducible refine ((c3 _ _ _ HLo.out.2 _ ?_).out).mono ?_); (focus ((exact of.runs); done)); rintro e wx ⟨gx, cx, rfl, hgx, ox, hb_wx⟩; have hs_wx := hb_wx.size; (try simp at hs_wx)))
    have OX := Lib.hid ox
    clear of ox
    go_upto_region 11 with ((go_at_call 15; (with_reducible refine ((c4 _ ?_).out).mono ?_); (focus ((exact HRt.out.below (by repeat (first | assumption | exact Below.refl _ _ | (refine below_chain ?_ (by assumption) (by first | omega | (simp <;> omega) | simp)) | (refine Below.alloc ?_ (by first | omega | (simp <;> omega) | simp) _) | (apply below_drewN) | (apply below_drew) | (refine Below.setCell ?_ (by first | omega | (simp <;> omega) | simp) _)))); done)); rintro e wm ⟨gm, cm, bm, rfl, om, hb_wm⟩; have hs_wm := hb_wm.size; (try simp at hs_wm)))
    have OM := Lib.hid om
    clear om
    have hBm : Below wt.heap.size wt wm := (by repeat (first | assumption | exact Below.refl _ _ | (refine below_chain ?_ (by assumption) (by first | omega | (simp <;> omega) | simp)) | (refine Below.alloc ?_ (by first | omega | (simp <;> omega) | simp) _) | (apply below_drewN) | (apply below_drew) | (refine Below.setCell ?_ (by first | omega | (simp <;> omega) | simp) _)))
    have OHm := Lib.hid (OH.out.below (hb_wf.trans ((hb_wx.trans (hb_wm.mono hs_wx)).mono hs_wf)))
    have OXm := Lib.hid (OX.out.below hb_wm)
    have hgxl := OXm.out.lt
    have hghl := OHm.out.lt
    have hgml := OM.out.lt
    have HBm := Lib.hid (HBt.out.trans (hBm.mono hswt))
    have hswm := HBm.out.size
    have HE := Lib.hid (Own.empty wm 3 1)
    clear OH OX HRt HBt hb_wh hb_wf hb_wx hb_wm hBm c3 c4 c7
    go_wp2_with fail
    go_loopw [16, 17] (fun v i wr => ∃ (j g cap : Nat), j ≤ n ∧ i = .int .i64 ((j : Int) + 1) ∧ v = .slice (some ⟨g, 0, none⟩) j cap ∧ wm.heap.size ≤ g ∧ Own wr g 3 1 j cap (rgL j (ovr hs)) ∧ Below wm.heap.size wm wr) (fun _ i _ => N - (intOf i).toNat)
    case atStart => exact ⟨0, _, _, Nat.zero_le _, rfl, rfl, Nat.le_refl _, HE.out, (by repeat (first | assumption | exact Below.refl _ _ | (refine below_chain ?_ (by assumption) (by first | omega | (simp <;> omega) | simp)) | (refine Below.alloc ?_ (by first | omega | (simp <;> omega) | simp) _) | (apply below_drewN) | (apply below_drew) | (refine Below.setCell ?_ (by first | omega | (simp <;> omega) | simp) _)))⟩
    case round =>
      clear HE
      rename World => wr
      obtain ⟨j, g, cap, hj, rfl, rfl, hg, how, hbr⟩ := hrel
      have hbs := hbr.size
      have hlo := how.lt
      have HO := Lib.hid how
      clear how
      by_cases hlt : j < n
      · have hlt' : (j : Int) + 1 < (N : Int) := by have := HK.out.2; omega
        have hh0 : (0 : Int) < (N : Int) := by omega
        have a0 := htAt_get (L := hs) (x := 0) (by omega) (by have := HLo.out.1; omega)
        have a1 := htAt_get (L := hs) (x := ((j + 1 : Nat) : Int)) (by omega) (by have := HLo.out.1; omega)
        have e0 := (OHm.out.below hbr).cells a0
        have e1 := (OHm.out.below hbr).cells a1
        have b0 := low_atS HLo.out.2 0
        have b1 := low_atS HLo.out.2 ((j + 1 : Nat) : Int)
        have hov : ovr hs j = htAt hs ((j + 1 : Nat) : Int) - htAt hs 0 := rfl
        obtain ⟨x0, hx0⟩ : ∃ x, htAt hs 0 = x := ⟨_, rfl⟩
        obtain ⟨x1, hx1⟩ : ∃ x, htAt hs ((j + 1 : Nat) : Int) = x := ⟨_, rfl⟩
        rw [hx0] at e0 b0 hov
        rw [hx1] at e1 b1 hov
        rw [show (0 : Int).toNat = 0 from rfl] at e0
        rw [show ((j + 1 : Nat) : Int).toNat = j + 1 from rfl] at e1
        obtain ⟨b2, b3⟩ := b0
        obtain ⟨b4, b5⟩ := b1
        have q1 : IntKind.i64.wrap (x1 - x0) = x1 - x0 := by rw [IntKind.wrap_i64]; omega
        have HV := Lib.hid hov
        clear hov a0 a1 hx0 hx1
        have hN0 : 0 < N := by omega
        have hj0 : (0 : Int) ≤ (j : Int) + 1 := by omega
        have hj1 : j + 1 < N := by omega
        have hgn : some gh ≠ some g := by simp; omega
        have hgl : gh < wr.heap.size := by omega
        have HZ := Lib.hid hbr
        clear hbr
        go_wp2_with fail
        go_region_held3 (fun W => W.cell? ⟨gh, j + 1, none⟩ = some (.int .i64 x1) ∧ W.cell? ⟨gh, 0, none⟩ = some (.int .i64 x0)) (first | go_keep | (rw [hg1.cell_far _ (by simp; omega) hgn, hg1.cell_far _ (by simp; omega) hgn]; assumption))
          ((refine step_app _ (by rfl) _ _ _ (by rfl) 3 _ 1 8 Try.underlying33 info_int rfl (by decide) (by decide) g j cap _ (by rfl) (HO.out.alloc _).dr ⟨wr.heap.size, 0, none⟩ 1 1 [x1 - x0] (by rfl) rfl (one_drewS wr _ _) (by decide) (by omega) ?_; intro g1 d1 w1 hown hg1 hloc hlt1))
        all_goals
          have hz1 := hg1.size
          have hN : (wm.heap.size ≤ g1) ∧ Below wm.heap.size wm w1 := by
            refine ⟨?_, below_gr (below_drew (HZ.out.alloc hbs _)) hg1 hg (by simp; omega)⟩
            rcases hloc with e | e
            · omega
            · simp at e; omega
          rw [← HV.out, rgL_snoc] at hown
          have HN := Lib.hid (And.intro hown hN)
          clear hown hg1 hloc hlt1 hN hz1 e0 e1 hgn
          first
          | exact ⟨⟨j + 1, g1, d1, by omega, by go_num, rfl, HN.out.2.1, HN.out.1, HN.out.2.2⟩, by simp [intOf]; omega⟩
          | (go_wp2_with fail; exact ⟨⟨j + 1, g1, d1, by omega, by go_num, rfl, HN.out.2.1, HN.out.1, HN.out.2.2⟩, by simp [intOf]; omega⟩)
      · have e : j = n := by omega
        subst e
        have hNj : ¬ (j : Int) + 1 < (N : Int) := by have := HK.out.2; omega
        have OXr := Lib.hid (OXm.out.below hbr)
        have OMr := Lib.hid (OM.out.below hbr)
        have HBr := Lib.hid (HBm.out.trans (hbr.mono hswm))
        have hsr := HBr.out.size
        have hxl : (rgL j (fun i => srcs (rs.map (fitOne hs)) (i + 1))).length = j := rgL_len _ _
        have c8 := fun p q cap d w h hq => Lib.hid (show _ from (by have := (c5 hs HLo.out.2 p q cap d w h hq).out; rw [c6 hs HLo.out.2] at this; exact this))
        obtain ⟨ys, hys⟩ : ∃ ys, rgL j (fun i => srcs (rs.map (fitOne hs)) (i + 1)) = ys := ⟨_, rfl⟩
        rw [hys] at hxl OXr c8
        clear hbr OXm OM HBm c5 c6 hys
        go_wp2_with (first
          | (go_at_call 38; (with_reducible refine ((c8 _ _ _ _ _ ?_ ?_).out).mono ?_); (focus ((exact OMr.out.read); done)); (focus ((exact HO.out.ints); done)); rintro e wa ⟨ga, ca, rfl, hga, oa, hb_wa⟩; have hs_wa := hb_wa.size; (try simp at hs_wa))
          | (go_at_call 37; (with_reducible refine (sameI_at hxl _ _ _ _ _ ?_ ?_ hn3).mono ?_); (focus ((exact (OXr.out.below hb_wa).ints); done)); (focus ((exact oa.ints); done)); rintro e wz ⟨rfl, hb_wz⟩; have hs_wz := hb_wz.size; (try simp at hs_wz)))
        exact bodyPost_ret (v := .bool true) (by simp [results, Try.results7, go_sem]) rfl ⟨rfl, HBr.out.trans ((hb_wa.trans (hb_wz.mono hs_wa)).mono hsr)⟩

set_option maxRecDepth 100000 in
theorem walk_long (len cap : Nat) (p : Option Addr) (len1 cap1 : Nat) (p1 : Option Addr) (w : World) (hl : 1048576 < len ∨ 1048576 < len1) :
    Calls Try.prog 7 #[.slice p len cap, .slice p1 len1 cap1] w fun e w' => e = .returned (.bool true) ∧ Below w.heap.size w w' := by
  by_cases h0 : (1048576 : Int) < (len : Int)
  · go_enter Try.func7, Try.ntmps7
    go_wp2
    go_ret
    exact ⟨rfl, Below.refl _ _⟩
  · have hl' : (1048576 : Int) < (len1 : Int) := by omega
    clear hl
    go_enter Try.func7, Try.ntmps7
    go_wp2
    go_ret
    exact ⟨rfl, Below.refl _ _⟩

set_option maxRecDepth 100000 in
theorem lifted (os : Os) (started : os.Started) (H : Type) (enc : TypeId × Value → H) :
    ReturnsInHanded {} Try.checked os 7 .any (Rows.fnSourceSpec.pre6 enc Try.prog Try.f7 Rows.fnSourceRow.domain false) (Rows.fnSourceSpec.post enc Try.prog Try.f7 false true false false) := by
  refine returnsInHanded_of_change (C := Try.checked) own started (by kernel_rfl) Try.func7
    (ChangeSpec.witness6 (enc := enc) (C := Try.checked) false ⟨#[], #[.slice none 0 0, .slice none 0 0], []⟩ 8 (by kernel_rfl) (by kernel_rfl) (by kernel_rfl) (by kernel_rfl)) ?_
  intro W base args ds gs before hval0 hW hcnd _
  have hval : ∀ (j : Nat) t v, Try.f7.params[j]? = some t → args[j]? = some v → Value.okWide Try.prog W .any base t v := hval0
  have hW' := hW
  obtain ⟨p, q, hA0, hV, rfl, hfz, hnd⟩ := hW
  have hA : DataW.TrodAll enc Try.prog W 0 (fun _ => true) true Try.f7.params.toList args.toList ds p := hA0
  rw [Try.params7] at hA hval
  obtain ⟨v0, vs0, d0, ds0, p0, q0, hargs, rfl, rfl, h0, r0⟩ := trodAll_cons hA
  obtain ⟨v1, vs1, d1, ds1, p1, q1, rfl, rfl, rfl, h1, r1⟩ := trodAll_cons r0
  obtain ⟨rfl, rfl, rfl⟩ := trodAll_nil r1
  obtain rfl : args = #[v0, v1] := by cases args; simp_all
  obtain ⟨rfl, rfl⟩ := trodVars_none hV
  obtain ⟨a0, len0, cap0, rfl⟩ := okWide_slice Try.underlying22 (hval 0 22 v0 rfl rfl)
  have k0 := h0
  have lt0 : ∀ x ∈ p0, x.block < W.heap.size := by obtain ⟨m, hm⟩ := k0; exact DataW.trod_lt m _ _ _ hm
  obtain ⟨z0, w0⟩ : ∃ zs, IsRow .u8 W a0 len0 cap0 zs := by
    obtain ⟨fuel, hf⟩ := h0
    rcases open_ints Try.underlying22 Try.underlying5 (by kernel_rfl) hf with ⟨hcs, _⟩ | ⟨x, l, c, zs, hcs, _, hl, hm, hz, _, hcell, hwz⟩
    · simp [Value.cells] at hcs
      obtain ⟨rfl, rfl, rfl⟩ := hcs
      exact ⟨[], .inl ⟨rfl, rfl, rfl, rfl⟩⟩
    · simp [Value.cells] at hcs
      obtain ⟨rfl, rfl, rfl⟩ := hcs
      exact ⟨zs, .inr ⟨_, rfl, hl, hm, by simpa using hz, hcell, hwz⟩⟩
  obtain ⟨a1, len1, cap1, rfl⟩ := okWide_slice Try.underlying22 (hval 1 22 v1 rfl rfl)
  have k1 := h1
  have lt1 : ∀ x ∈ p1, x.block < W.heap.size := by obtain ⟨m, hm⟩ := k1; exact DataW.trod_lt m _ _ _ hm
  obtain ⟨z1, w1⟩ : ∃ zs, IsRow .u8 W a1 len1 cap1 zs := by
    obtain ⟨fuel, hf⟩ := h1
    rcases open_ints Try.underlying22 Try.underlying5 (by kernel_rfl) hf with ⟨hcs, _⟩ | ⟨x, l, c, zs, hcs, _, hl, hm, hz, _, hcell, hwz⟩
    · simp [Value.cells] at hcs
      obtain ⟨rfl, rfl, rfl⟩ := hcs
      exact ⟨[], .inl ⟨rfl, rfl, rfl, rfl⟩⟩
    · simp [Value.cells] at hcs
      obtain ⟨rfl, rfl, rfl⟩ := hcs
      exact ⟨zs, .inr ⟨_, rfl, hl, hm, by simpa using hz, hcell, hwz⟩⟩
  clear hA0 hval0
  have hw : Calls Try.prog 7 #[.slice a0 len0 cap0, .slice a1 len1 cap1] W fun e w' => e = .returned (.bool true) ∧ Below W.heap.size W w' := by
    by_cases hl : len0 ≤ 1048576
    · by_cases hm : len1 ≤ 1048576
      · exact walk len0 cap0 a0 len1 cap1 a1 W hl hm (Lib.hid (code_of_row w0 hl)) (Lib.hid (code_of_row w1 hm))
      · exact walk_long len0 cap0 a0 len1 cap1 a1 W (by omega)
    · exact walk_long len0 cap0 a0 len1 cap1 a1 W (by omega)
  refine hw.mono fun e W' ⟨he, bel⟩ => ?_
  subst he
  exact ⟨_, rfl, _, _, _, [], _, [], hW', trodAll_mk1 (shut_bool Try.underlying4 _), (trodAll_cons_mk (Below.trod laidOut (by kernel_rfl) (of_decide_eq_true (by kernel_rfl)) k0 bel lt0) (trodAll_cons_mk (Below.trod laidOut (by kernel_rfl) (of_decide_eq_true (by kernel_rfl)) k1 bel lt1) trodAll_mk0)), rfl, bel.frame _, fun h => by cases h⟩

theorem over : Rows.fnSourceRow.holds Try.pinned (OpenSpec.ofChange Rows.fnSourceSpec) :=
  OpenClaim.holds_of_wide 7 Try.f7 rfl rfl rfl rfl rfl rfl rfl ⟨rfl, rfl, rfl, rfl, rfl⟩ rfl rfl rfl rfl rfl (by kernel_rfl) Try.func7 (by kernel_rfl)
    (of_decide_eq_true (by kernel_rfl)) (by unfold Func.isWrapper; first | (rw [if_pos (by decide +kernel)]; kernel_rfl) | (rw [if_neg (by decide +kernel)]; exact ⟨rfl, rfl⟩))
    (fun os started H enc _ => lifted os started H enc)

theorem proved : Rows.FnSourceSaid := over
end Go.Proofs.Ytcfnlfldknadlaa.fnSource

