/-
  For every code the law FnShareRing returns true: impl.ShareRises answers as the reference model does; the sum of its rises is 0, rises whose sum is 0 stay, and as a ring of runs they close if it is a net. No condition: every list of bytes is taken.
-/
import Derived.Test.YtjfbkafekkbcdaaSi
import Derived.Test.YtjfbkafekkbcdaaSj
import Derived.Test.YtjfbkafekkbcdaaSk
import Derived.Test.YtjfbkafekkbcdaaDSz
import Derived.Test.YtjfbkafekkbcdaaVz
namespace Go.Proofs.Ytjfbkafekkbcdaa.fnShareRing
open Go.ChangeShapes Go.WideShapes Go.ChangeAt Go.RowKit
set_option linter.unusedVariables false

theorem four_drew (w : World) (a b c d : Int) (t : TypeId) : ∀ (j : Nat) (y : Int), [a, b, c, d][j]? = some y → (w.alloc (.cells #[.int .i64 a, .int .i64 b, .int .i64 c, .int .i64 d] t)).drew.cell? ((⟨w.heap.size, 0, none⟩ : Addr).add j) = some (.int .i64 y) := four_cells w a b c d t
set_option maxHeartbeats 8000000 in
set_option maxRecDepth 100000 in
theorem walk (len cap : Nat) (p : Option Addr) (w : World) (hl : len ≤ 1048576) (h : Hid (Code' w (.slice p len cap))) :
    Calls Try.prog 8 #[.slice p len cap] w fun e w' => e = .returned (.bool true) ∧ Below w.heap.size w w' := by
  have hl' : ¬ (1048576 : Int) < (len : Int) := by omega
  go_enter Try.func8, Try.ntmps8
  go_upto_region 4 with (go_at_call 25; (with_reducible refine (drawShareRises_is _ _ h).mono ?_); rintro e wd ⟨ls, ss, n, m, P, c, d, q, rfl, ⟨⟨hln, hn6⟩, hsm, hm6⟩, hP, hq, hb_wd⟩; have hs_wd := hb_wd.size; have HR := Lib.hid (And.intro hP hq); have HM := Lib.hid (And.intro hln hsm); clear hP hq hln hsm)
  clear h
  by_cases hr : risOk ls ss
  · obtain rfl : m = n := by have := hr.2.1; have := HM.out; omega
    have hm1 : 1 ≤ m := by have := (lenOk_true.1 hr.1).1; have := HM.out.1; omega
    have c1 := fun w h hh => Lib.hid (iShareRises_yes m c d (some ⟨P, 0, none⟩) q ls ss w h hh HM.out.1 hr)
    have c2 := fun w h hh => Lib.hid (sShareRises_yes m c d (some ⟨P, 0, none⟩) q ls ss w h hh HM.out.1 hr)
    have hol : (rsh ls ss).length = m := by rw [rsh_len]; exact HM.out.1
    have hob : ∀ z ∈ rsh ls ss, -1000000000 ≤ z ∧ z ≤ 1000000000 := fun z hz => by
      obtain ⟨i, hi, rfl⟩ := mem_nth hz
      rw [rsh_len] at hi
      rw [nth_rsh hi]
      have h1 := sh_low hr.amt.2 hi
      have h2 := hr.2.2 (nth ss i) (nth_mem (by rw [hr.2.1]; exact hi))
      omega
    have hts := rsh_sum (ss := ss) hr.1 hr.2.1
    have htt := fun h => rsh_same (ss := ss) hr.1 hr.2.1 h
    have c3 := fun (g cg : Nat) w h => Lib.hid (lSum m cg (some ⟨g, 0, none⟩) (rsh ls ss) w h hol (by omega) hob)
    have c4 := fun w h => Lib.hid (lSum m d q ss w h HM.out.2 (by omega) (fun z hz => by have := hr.2.2 z hz; omega))
    rw [hts] at c3
    obtain ⟨O, hO⟩ : ∃ O, rsh ls ss = O := ⟨_, rfl⟩
    obtain ⟨t, ht⟩ : ∃ t, tot ss = t := ⟨_, rfl⟩
    rw [hO] at c1 c2 hol hob hts htt c3
    rw [ht] at c4 htt
    have HL := Lib.hid (And.intro hol (And.intro hts (And.intro hob htt)))
    clear hol hts hob htt hO ht hr
    go_upto_region 9 with (first | ((go_at_call 26; (with_reducible refine ((c1 _ ?_ ?_).out).mono ?_); (focus ((exact HR.out.1); done)); (focus ((exact HR.out.2); done)); rintro e wi ⟨g, cg, rfl, hg, og, hb_wi⟩; have hs_wi := hb_wi.size; (try simp at hs_wi)); have OG := Lib.hid og; clear og) | ((go_at_call 27; (with_reducible refine ((c2 _ ?_ ?_).out).mono ?_); (focus ((exact HR.out.1.below hb_wi); done)); (focus ((exact HR.out.2.below hb_wi); done)); rintro e ws ⟨g2, cg2, rfl, hg2, og2, hb_ws⟩; have hs_ws := hb_ws.size; (try simp at hs_ws)); have OG2 := Lib.hid og2; clear og2) | (go_at_call 17; (with_reducible refine (sameInts_at' HL.out.1 _ _ _ _ _ ?_ ?_ (by omega)).mono ?_); (focus ((exact (OG.out.below (by repeat (first | assumption | exact Below.refl _ _ | (refine below_chain ?_ (by assumption) (by first | omega | (simp <;> omega) | simp)) | (refine Below.alloc ?_ (by first | omega | (simp <;> omega) | simp) _) | (apply below_drewN) | (apply below_drew) | (refine Below.setCell ?_ (by first | omega | (simp <;> omega) | simp) _)))).ints); done)); (focus ((exact OG2.out.ints); done)); rintro e wt ⟨rfl, hb_wt⟩; have hs_wt := hb_wt.size; (try simp at hs_wt)))
    have hBi : Below wi.heap.size wi wt := (by repeat (first | assumption | exact Below.refl _ _ | (refine below_chain ?_ (by assumption) (by first | omega | (simp <;> omega) | simp)) | (refine Below.alloc ?_ (by first | omega | (simp <;> omega) | simp) _) | (apply below_drewN) | (apply below_drew) | (refine Below.setCell ?_ (by first | omega | (simp <;> omega) | simp) _)))
    have hBd : Below wd.heap.size wd wt := (by repeat (first | assumption | exact Below.refl _ _ | (refine below_chain ?_ (by assumption) (by first | omega | (simp <;> omega) | simp)) | (refine Below.alloc ?_ (by first | omega | (simp <;> omega) | simp) _) | (apply below_drewN) | (apply below_drew) | (refine Below.setCell ?_ (by first | omega | (simp <;> omega) | simp) _)))
    have HX := Lib.hid (And.intro (HR.out.2.below hBd) (And.intro (OG.out.below hBi) (hb_wd.trans (hBd.mono hs_wd))))
    have hsW := HX.out.2.2.size
    have hgt := HX.out.2.1.lt
    clear hb_wd hb_wi hb_ws hb_wt hBi hBd HR OG OG2 c1 c2
    have hst : Hid (t = 0 → Ints wt q O) := Lib.hid (fun h => by rw [HL.out.2.2.2 h]; exact HX.out.1)
    obtain ⟨u, hu⟩ : ∃ u, decide (t = 0) = u := ⟨_, rfl⟩
    cases u
    · have ht0 : ¬ t = 0 := of_decide_eq_false hu
      have ht0' : (t == 0) = false := by simpa using ht0
      go_upto_region 11 with (first | (go_at_call 18; (with_reducible refine ((c3 _ _ _ ?_).out).mono ?_); (focus (exact HX.out.2.1.ints; done)); rintro e w' ⟨rfl, rfl⟩) | (go_at_call 18; (with_reducible refine ((c4 _ ?_).out).mono ?_); (focus (exact HX.out.1; done)); rintro e w' ⟨rfl, rfl⟩))
      refine gen_world (fun W => Own W g 3 1 m cg O ∧ Below w.heap.size w W) ⟨HX.out.2.1, HX.out.2.2⟩ (fun wu HU => ?_)
      clear hu ht0 ht0'
      have HU2 := Lib.hid HU
      have hsu := HU.2.size
      have hgu := HU.1.lt
      clear HU HX hst c3 c4
      have hm0 : ¬ (m : Int) = 0 := by omega
      have hm00 : ¬ m = 0 := by omega
      have hm6' : ¬ (6 : Int) < (m : Int) := by omega
      by_cases hm2 : m < 2
      · have hm2' : (m : Int) < 2 := by omega
        go_wp2_with fail
        go_ret
        exact ⟨rfl, HU2.out.2⟩
      · have hm2' : ¬ (m : Int) < 2 := by omega
        have HM2 := Lib.hid hm2
        clear hm2
        go_wp2_with fail
        have HE := Lib.hid (Own.empty wu 41 4)
        go_loopw [10, 11] (fun v i wr => ∃ (j gr cr : Nat), j ≤ m ∧ i = .int .i64 j ∧ v = .slice (some ⟨gr, 0, none⟩) j cr ∧ wu.heap.size ≤ gr ∧ Own wr gr 41 4 j cr (flat (ringR m O j)) ∧ Below wu.heap.size wu wr) (fun _ i _ => m - (intOf i).toNat)
        case atStart => exact ⟨0, _, _, Nat.zero_le _, rfl, rfl, Nat.le_refl _, HE.out, (by repeat (first | assumption | exact Below.refl _ _ | (refine below_chain ?_ (by assumption) (by first | omega | (simp <;> omega) | simp)) | (refine Below.alloc ?_ (by first | omega | (simp <;> omega) | simp) _) | (apply below_drewN) | (apply below_drew) | (refine Below.setCell ?_ (by first | omega | (simp <;> omega) | simp) _)))⟩
        case round =>
          clear HE
          rename World => wz
          obtain ⟨j, gr, cr, hj, rfl, rfl, hgr, ho, hbz⟩ := hrel
          have hsz := hbz.size
          have hlo := ho.lt
          have HZ := Lib.hid (And.intro ho hbz)
          clear ho hbz
          by_cases hlt : j < m
          · obtain ⟨o, hox⟩ : ∃ o, nth O j = o := ⟨_, rfl⟩
            have hjo : O[j]? = some o := by rw [← hox]; exact at_nth (by have := HL.out.1; omega)
            have e0 := (HU2.out.1.below HZ.out.2).cells hjo
            obtain ⟨tt, htt⟩ : ∃ tt, (j + 1) % m = tt := ⟨_, rfl⟩
            have hrm : ((j : Int) + 1) % (m : Int) = (tt : Int) := by rw [show (j : Int) + 1 = ((j + 1 : Nat) : Int) by omega, ← htt]; rfl
            have hr1 : ring1 m O j = ⟨j, tt, o, 1⟩ := by unfold ring1; rw [htt, hox]
            have hlt' : (j : Int) < (m : Int) := by omega
            have hgz : g < wz.heap.size := by omega
            have hne : some g ≠ some gr := by simp; omega
            have HR1 := Lib.hid hr1
            clear hjo hox htt hr1
            go_wp2_with fail
            go_region_held3 (fun W => W.cell? ⟨g, j, none⟩ = some (.int .i64 o)) (first | go_keep | (rw [hg1.cell_far _ (by simp; omega) hne]; assumption))
              ((refine step_app _ (by rfl) _ _ _ (by rfl) 41 _ 4 32 Try.underlying39 info_run rfl (by decide) (by decide) gr j cr _ (by rfl) (own_drew (HZ.out.1.alloc _)) ⟨wz.heap.size, 0, none⟩ 1 1 [(j : Int), (IntKind.i64.wrap ((j : Int) + 1)).tmod (m : Int), o, 1] (by rfl) rfl (four_drew wz _ _ _ _ _) (by decide) (by omega) ?_; intro g1 d1 w1 hown hg1 hloc hlt1))
            have hwt : (IntKind.i64.wrap ((j : Int) + 1)).tmod (m : Int) = (tt : Int) := by
              have e : IntKind.i64.wrap ((j : Int) + 1) = (j : Int) + 1 := by rw [IntKind.wrap_i64]; omega
              rw [e, ← hrm]; exact Int.tmod_eq_emod_of_nonneg (by omega)
            rw [hwt] at hown hg1 hloc
            have hz1 := hg1.size
            have hN : (wu.heap.size ≤ g1) ∧ Below wu.heap.size wu w1 := by
              refine ⟨?_, below_gr (below_dr (HZ.out.2.alloc hsz _)) hg1 hgr (by simp; omega)⟩
              rcases hloc with e | e
              · omega
              · simp at e; omega
            rw [flat_snoc, ← HR1.out, ring_snoc] at hown
            have HN := Lib.hid (And.intro hown hN)
            clear hown hg1 hloc hlt1 hN hz1 e0 hne
            go_wp2_with fail
            go_roundw
            case rel => exact ⟨j + 1, g1, d1, by omega, by go_num, rfl, HN.out.2.1, HN.out.1, HN.out.2.2⟩
            case measure => simp [intOf]; omega
          · have e : j = m := by omega
            subst e
            have hrl : (ringR j O j).length = j := ring_len
            obtain ⟨v, hv⟩ : ∃ v, nOk j (ringR j O j) = v := ⟨_, rfl⟩
            have c5 := fun w h => Lib.hid (iValid_n (p := some ⟨gr, 0, none⟩) (c := cr) w hrl h (by omega) hv)
            have HB := Lib.hid (HU2.out.2.trans (HZ.out.2.mono hsu))
            have hszw := HB.out.size
            cases v
            · clear hv hrl hlt
              go_wp2_with ((go_at_call 28; (with_reducible refine ((c5 _ ?_).out).mono ?_); (focus ((exact HZ.out.1.runs); done)); rintro e wy ⟨rfl, hb_wy⟩; have hs_wy := hb_wy.size; (try simp at hs_wy)))
              go_ret
              exact ⟨rfl, HB.out.trans (hb_wy.mono hszw)⟩
            · obtain ⟨hwh, hcl⟩ := ring_closes HL.out.1 HL.out.2.1 hv
              have c6 := fun w h => Lib.hid (iCloses_yes j j (some ⟨gr, 0, none⟩) cr (ringR j O j) true w h hrl hwh hcl)
              clear hv hrl hlt hwh hcl
              go_wp2_with (first | (go_at_call 28; (with_reducible refine ((c5 _ ?_).out).mono ?_); (focus ((exact HZ.out.1.runs); done)); rintro e wy ⟨rfl, hb_wy⟩; have hs_wy := hb_wy.size; (try simp at hs_wy)) | (go_at_call 29; (with_reducible refine ((c6 _ ?_).out).mono ?_); (focus ((exact HZ.out.1.runs.below hb_wy); done)); rintro e wx ⟨rfl, hb_wx⟩; have hs_wx := hb_wx.size; (try simp at hs_wx)))
              go_ret
              exact ⟨rfl, HB.out.trans ((show Below wz.heap.size wz wx from (by repeat (first | assumption | exact Below.refl _ _ | (refine below_chain ?_ (by assumption) (by first | omega | (simp <;> omega) | simp)) | (refine Below.alloc ?_ (by first | omega | (simp <;> omega) | simp) _) | (apply below_drewN) | (apply below_drew) | (refine Below.setCell ?_ (by first | omega | (simp <;> omega) | simp) _)))).mono hszw)⟩
    · have ht0 : t = 0 := of_decide_eq_true hu
      clear hu
      subst ht0
      go_upto_region 11 with (first | (go_at_call 18; (with_reducible refine ((c3 _ _ _ ?_).out).mono ?_); (focus (exact HX.out.2.1.ints; done)); rintro e w' ⟨rfl, rfl⟩) | (go_at_call 18; (with_reducible refine ((c4 _ ?_).out).mono ?_); (focus (exact HX.out.1; done)); rintro e w' ⟨rfl, rfl⟩) | (go_at_call 17; (with_reducible refine (sameInts_at' HL.out.1 _ _ _ _ _ ?_ ?_ (by omega)).mono ?_); (focus ((exact HX.out.2.1.ints); done)); (focus ((exact hst.out (by first | trivial | rfl)); done)); rintro e wv ⟨rfl, hb_wv⟩; have hs_wv := hb_wv.size; (try simp at hs_wv)))
      refine gen_world (fun W => Own W g 3 1 m cg O ∧ Below w.heap.size w W) ⟨HX.out.2.1.below hb_wv, HX.out.2.2.trans (hb_wv.mono hsW)⟩ (fun wu HU => ?_)
      clear hb_wv
      have HU2 := Lib.hid HU
      have hsu := HU.2.size
      have hgu := HU.1.lt
      clear HU HX hst c3 c4
      have hm0 : ¬ (m : Int) = 0 := by omega
      have hm00 : ¬ m = 0 := by omega
      have hm6' : ¬ (6 : Int) < (m : Int) := by omega
      by_cases hm2 : m < 2
      · have hm2' : (m : Int) < 2 := by omega
        go_wp2_with fail
        go_ret
        exact ⟨rfl, HU2.out.2⟩
      · have hm2' : ¬ (m : Int) < 2 := by omega
        have HM2 := Lib.hid hm2
        clear hm2
        go_wp2_with fail
        have HE := Lib.hid (Own.empty wu 41 4)
        go_loopw [10, 11] (fun v i wr => ∃ (j gr cr : Nat), j ≤ m ∧ i = .int .i64 j ∧ v = .slice (some ⟨gr, 0, none⟩) j cr ∧ wu.heap.size ≤ gr ∧ Own wr gr 41 4 j cr (flat (ringR m O j)) ∧ Below wu.heap.size wu wr) (fun _ i _ => m - (intOf i).toNat)
        case atStart => exact ⟨0, _, _, Nat.zero_le _, rfl, rfl, Nat.le_refl _, HE.out, (by repeat (first | assumption | exact Below.refl _ _ | (refine below_chain ?_ (by assumption) (by first | omega | (simp <;> omega) | simp)) | (refine Below.alloc ?_ (by first | omega | (simp <;> omega) | simp) _) | (apply below_drewN) | (apply below_drew) | (refine Below.setCell ?_ (by first | omega | (simp <;> omega) | simp) _)))⟩
        case round =>
          clear HE
          rename World => wz
          obtain ⟨j, gr, cr, hj, rfl, rfl, hgr, ho, hbz⟩ := hrel
          have hsz := hbz.size
          have hlo := ho.lt
          have HZ := Lib.hid (And.intro ho hbz)
          clear ho hbz
          by_cases hlt : j < m
          · obtain ⟨o, hox⟩ : ∃ o, nth O j = o := ⟨_, rfl⟩
            have hjo : O[j]? = some o := by rw [← hox]; exact at_nth (by have := HL.out.1; omega)
            have e0 := (HU2.out.1.below HZ.out.2).cells hjo
            obtain ⟨tt, htt⟩ : ∃ tt, (j + 1) % m = tt := ⟨_, rfl⟩
            have hrm : ((j : Int) + 1) % (m : Int) = (tt : Int) := by rw [show (j : Int) + 1 = ((j + 1 : Nat) : Int) by omega, ← htt]; rfl
            have hr1 : ring1 m O j = ⟨j, tt, o, 1⟩ := by unfold ring1; rw [htt, hox]
            have hlt' : (j : Int) < (m : Int) := by omega
            have hgz : g < wz.heap.size := by omega
            have hne : some g ≠ some gr := by simp; omega
            have HR1 := Lib.hid hr1
            clear hjo hox htt hr1
            go_wp2_with fail
            go_region_held3 (fun W => W.cell? ⟨g, j, none⟩ = some (.int .i64 o)) (first | go_keep | (rw [hg1.cell_far _ (by simp; omega) hne]; assumption))
              ((refine step_app _ (by rfl) _ _ _ (by rfl) 41 _ 4 32 Try.underlying39 info_run rfl (by decide) (by decide) gr j cr _ (by rfl) (own_drew (HZ.out.1.alloc _)) ⟨wz.heap.size, 0, none⟩ 1 1 [(j : Int), (IntKind.i64.wrap ((j : Int) + 1)).tmod (m : Int), o, 1] (by rfl) rfl (four_drew wz _ _ _ _ _) (by decide) (by omega) ?_; intro g1 d1 w1 hown hg1 hloc hlt1))
            have hwt : (IntKind.i64.wrap ((j : Int) + 1)).tmod (m : Int) = (tt : Int) := by
              have e : IntKind.i64.wrap ((j : Int) + 1) = (j : Int) + 1 := by rw [IntKind.wrap_i64]; omega
              rw [e, ← hrm]; exact Int.tmod_eq_emod_of_nonneg (by omega)
            rw [hwt] at hown hg1 hloc
            have hz1 := hg1.size
            have hN : (wu.heap.size ≤ g1) ∧ Below wu.heap.size wu w1 := by
              refine ⟨?_, below_gr (below_dr (HZ.out.2.alloc hsz _)) hg1 hgr (by simp; omega)⟩
              rcases hloc with e | e
              · omega
              · simp at e; omega
            rw [flat_snoc, ← HR1.out, ring_snoc] at hown
            have HN := Lib.hid (And.intro hown hN)
            clear hown hg1 hloc hlt1 hN hz1 e0 hne
            go_wp2_with fail
            go_roundw
            case rel => exact ⟨j + 1, g1, d1, by omega, by go_num, rfl, HN.out.2.1, HN.out.1, HN.out.2.2⟩
            case measure => simp [intOf]; omega
          · have e : j = m := by omega
            subst e
            have hrl : (ringR j O j).length = j := ring_len
            obtain ⟨v, hv⟩ : ∃ v, nOk j (ringR j O j) = v := ⟨_, rfl⟩
            have c5 := fun w h => Lib.hid (iValid_n (p := some ⟨gr, 0, none⟩) (c := cr) w hrl h (by omega) hv)
            have HB := Lib.hid (HU2.out.2.trans (HZ.out.2.mono hsu))
            have hszw := HB.out.size
            cases v
            · clear hv hrl hlt
              go_wp2_with ((go_at_call 28; (with_reducible refine ((c5 _ ?_).out).mono ?_); (focus ((exact HZ.out.1.runs); done)); rintro e wy ⟨rfl, hb_wy⟩; have hs_wy := hb_wy.size; (try simp at hs_wy)))
              go_ret
              exact ⟨rfl, HB.out.trans (hb_wy.mono hszw)⟩
            · obtain ⟨hwh, hcl⟩ := ring_closes HL.out.1 HL.out.2.1 hv
              have c6 := fun w h => Lib.hid (iCloses_yes j j (some ⟨gr, 0, none⟩) cr (ringR j O j) true w h hrl hwh hcl)
              clear hv hrl hlt hwh hcl
              go_wp2_with (first | (go_at_call 28; (with_reducible refine ((c5 _ ?_).out).mono ?_); (focus ((exact HZ.out.1.runs); done)); rintro e wy ⟨rfl, hb_wy⟩; have hs_wy := hb_wy.size; (try simp at hs_wy)) | (go_at_call 29; (with_reducible refine ((c6 _ ?_).out).mono ?_); (focus ((exact HZ.out.1.runs.below hb_wy); done)); rintro e wx ⟨rfl, hb_wx⟩; have hs_wx := hb_wx.size; (try simp at hs_wx)))
              go_ret
              exact ⟨rfl, HB.out.trans ((show Below wz.heap.size wz wx from (by repeat (first | assumption | exact Below.refl _ _ | (refine below_chain ?_ (by assumption) (by first | omega | (simp <;> omega) | simp)) | (refine Below.alloc ?_ (by first | omega | (simp <;> omega) | simp) _) | (apply below_drewN) | (apply below_drew) | (refine Below.setCell ?_ (by first | omega | (simp <;> omega) | simp) _)))).mono hszw)⟩
  · have c1 := fun w h hh => Lib.hid (iShareRises_no n c m d (some ⟨P, 0, none⟩) q ls ss w h hh HM.out.1 HM.out.2 (by omega) (by omega) hr)
    have c2 := fun w h hh => Lib.hid (sShareRises_no n c m d (some ⟨P, 0, none⟩) q ls ss w h hh HM.out.1 HM.out.2 (by omega) (by omega) hr)
    clear hr
    go_wp2_with (first | (go_at_call 26; (with_reducible refine ((c1 _ ?_ ?_).out).mono ?_); (focus ((exact HR.out.1); done)); (focus ((exact HR.out.2); done)); rintro e wi ⟨⟨q2, d2, rfl⟩, hb_wi⟩; have hs_wi := hb_wi.size; (try simp at hs_wi)) | (go_at_call 27; (with_reducible refine ((c2 _ ?_ ?_).out).mono ?_); (focus ((exact HR.out.1.below hb_wi); done)); (focus ((exact HR.out.2.below hb_wi); done)); rintro e ws ⟨⟨g, rfl⟩, hb_ws⟩; have hs_ws := hb_ws.size; (try simp at hs_ws)) | (go_at_call 17; (with_reducible refine (sameInts_nil _ _ _ _ _).mono ?_); rintro e wt ⟨rfl, hb_wt⟩; have hs_wt := hb_wt.size; (try simp at hs_wt)))
    go_ret
    exact ⟨rfl, (by repeat (first | assumption | exact Below.refl _ _ | (refine below_chain ?_ (by assumption) (by first | omega | (simp <;> omega) | simp)) | (refine Below.alloc ?_ (by first | omega | (simp <;> omega) | simp) _) | (apply below_drewN) | (apply below_drew) | (refine Below.setCell ?_ (by first | omega | (simp <;> omega) | simp) _)))⟩

set_option maxRecDepth 100000 in
theorem walk_long (len cap : Nat) (p : Option Addr) (w : World) (hl : 1048576 < len) :
    Calls Try.prog 8 #[.slice p len cap] w fun e w' => e = .returned (.bool true) ∧ Below w.heap.size w w' := by
  have hl' : (1048576 : Int) < (len : Int) := by omega
  go_enter Try.func8, Try.ntmps8
  go_wp2
  go_ret
  exact ⟨rfl, Below.refl _ _⟩

set_option maxRecDepth 100000 in
theorem lifted (os : Os) (started : os.Started) (H : Type) (enc : TypeId × Value → H) :
    ReturnsInHanded {} Try.checked os 8 .any (Rows.fnShareRingSpec.pre6 enc Try.prog Try.f8 Rows.fnShareRingRow.domain false) (Rows.fnShareRingSpec.post enc Try.prog Try.f8 false true false false) := by
  refine returnsInHanded_of_change (C := Try.checked) own started (by kernel_rfl) Try.func8
    (ChangeSpec.witness6 (enc := enc) (C := Try.checked) false ⟨#[], #[.slice none 0 0], []⟩ 8 (by kernel_rfl) (by kernel_rfl) (by kernel_rfl) (by kernel_rfl)) ?_
  intro W base args ds gs before hval0 hW hcnd _
  have hval : ∀ (j : Nat) t v, Try.f8.params[j]? = some t → args[j]? = some v → Value.okWide Try.prog W .any base t v := hval0
  have hW' := hW
  obtain ⟨p, q, hA0, hV, rfl, hfz, hnd⟩ := hW
  have hA : DataW.TrodAll enc Try.prog W 0 (fun _ => true) true Try.f8.params.toList args.toList ds p := hA0
  rw [Try.params8] at hA hval
  obtain ⟨v0, vs0, d0, ds0, p0, q0, hargs, rfl, rfl, h0, r0⟩ := trodAll_cons hA
  obtain ⟨rfl, rfl, rfl⟩ := trodAll_nil r0
  obtain rfl : args = #[v0] := by cases args; simp_all
  obtain ⟨rfl, rfl⟩ := trodVars_none hV
  obtain ⟨a0, len0, cap0, rfl⟩ := okWide_slice Try.underlying22 (hval 0 22 v0 rfl rfl)
  have k0 := h0
  have lt0 : ∀ x ∈ p0, x.block < W.heap.size := by obtain ⟨m, hm⟩ := k0; exact DataW.trod_lt m _ _ _ hm
  obtain ⟨z0, w0⟩ : ∃ zs, IsRow .u8 W a0 len0 cap0 zs := by
    obtain ⟨fuel, hf⟩ := h0
    rcases open_ints Try.underlying22 Try.underlying5 (by kernel_rfl) hf with ⟨hcs, _⟩ | ⟨x, l, c, zs, hcs, _, hl, hm, hz, _, hcell, hwz⟩
    · simp [Value.cells] at hcs
      obtain ⟨rfl, rfl, rfl⟩ := hcs
      exact ⟨[], .inl ⟨rfl, rfl, rfl, rfl⟩⟩
    · simp [Value.cells] at hcs
      obtain ⟨rfl, rfl, rfl⟩ := hcs
      exact ⟨zs, .inr ⟨_, rfl, hl, hm, by simpa using hz, hcell, hwz⟩⟩
  clear hA0 hval0
  have hw : Calls Try.prog 8 #[.slice a0 len0 cap0] W fun e w' => e = .returned (.bool true) ∧ Below W.heap.size W w' := by
    by_cases hl : len0 ≤ 1048576
    · exact walk len0 cap0 a0 W hl (Lib.hid (code_of_row w0 hl))
    · exact walk_long len0 cap0 a0 W (by omega)
  refine hw.mono fun e W' ⟨he, bel⟩ => ?_
  subst he
  exact ⟨_, rfl, _, _, _, [], _, [], hW', trodAll_mk1 (shut_bool Try.underlying4 _), (trodAll_cons_mk (Below.trod laidOut (by kernel_rfl) (of_decide_eq_true (by kernel_rfl)) k0 bel lt0) trodAll_mk0), rfl, bel.frame _, fun h => by cases h⟩

theorem over : Rows.fnShareRingRow.holds Try.pinned (OpenSpec.ofChange Rows.fnShareRingSpec) :=
  OpenClaim.holds_of_wide 8 Try.f8 rfl rfl rfl rfl rfl rfl rfl ⟨rfl, rfl, rfl, rfl, rfl⟩ rfl rfl rfl rfl rfl (by kernel_rfl) Try.func8 (by kernel_rfl)
    (of_decide_eq_true (by kernel_rfl)) (by unfold Func.isWrapper; first | (rw [if_pos (by decide +kernel)]; kernel_rfl) | (rw [if_neg (by decide +kernel)]; exact ⟨rfl, rfl⟩))
    (fun os started H enc _ => lifted os started H enc)

theorem proved : Rows.FnShareRingSaid := over
end Go.Proofs.Ytjfbkafekkbcdaa.fnShareRing

