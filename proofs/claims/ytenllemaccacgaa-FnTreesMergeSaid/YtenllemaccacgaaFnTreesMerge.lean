/-
  For every two codes the law FnTreesMerge returns true: impl.NetMerge answers as the reference model does; the merged net is as whole as the net; heights that fit the runs and are equal at both nodes fit the merged net without one of them. No condition: every two lists of bytes are taken.
-/
import Derived.Test.YtenllemaccacgaaZn
import Derived.Test.YtenllemaccacgaaZp
import Derived.Test.YtenllemaccacgaaCode
import Derived.Test.YtenllemaccacgaaKq
import Derived.Deep.RegionHeld3
namespace Go.Proofs.Ytenllemaccacgaa.fnTreesMerge
open Go.ChangeShapes Go.WideShapes Go.ChangeAt Go.RowKit
set_option linter.unusedVariables false

theorem two_endsN {N : Int} {r : Rn} (h : rOk N r = true) : ∃ lo hi : Nat, lo < hi ∧ Ends2 r (lo : Int) (hi : Int) := by
  obtain ⟨h1, h2, h3, h4, h5, -⟩ := rOk_true h
  by_cases e : r.f < r.t
  · exact ⟨r.f.toNat, r.t.toNat, by omega, .inl ⟨by omega, by omega⟩⟩
  · exact ⟨r.t.toNat, r.f.toNat, by omega, .inr ⟨by omega, by omega⟩⟩
theorem mrg_lenM (lo hi : Int) (rs : List Rn) : (mrg lo hi rs).length ≤ rs.length := by
  refine Nat.le_trans (List.length_filter_le _ _) ?_
  rw [List.length_map]; exact Nat.le_refl _
theorem iWholeM (n : Int) (p : Option Addr) (c m : Nat) (rs : List Rn) (b : Bool) (w : World) (h : Runs w p rs) (hm : rs.length = m) (hl : m ≤ 8) (hb : nWhole n rs = b) :
    Calls Try.prog 31 #[.int .i64 n, .slice p m c] w fun e w' => e = .returned (.bool b) ∧ Below w.heap.size w w' := by
  subst hm
  exact iWhole n p c rs b w h (by omega) hb
theorem iFitsM (n : Int) (p q : Option Addr) (c d m N : Nat) (rs : List Rn) (hs : List Int) (b : Bool) (w : World) (h : Runs w p rs) (hh : Ints w q hs) (hm : rs.length = m) (hN : hs.length = N) (hl : m ≤ 8) (hl2 : N ≤ 6) (hb : nFits n rs hs = b) :
    Calls Try.prog 60 #[.int .i64 n, .slice p m c, .slice q N d] w fun e w' => e = .returned (.bool b) ∧ Below w.heap.size w w' := by
  subst hm
  subst hN
  exact iFits n p q c d rs hs b w h hh (by omega) (by omega) hb
theorem own_T {w : World} {g N c : Nat} {L : List Int} (k : Nat) (h : Own w g 3 1 N c L) : ∀ (j : Nat) (z : Int), (L.take k)[j]? = some z → w.cell? ((⟨g, 0, none⟩ : Addr).add j) = some (.int .i64 z) := fun j z hz => by
  rw [List.getElem?_take] at hz
  split at hz
  · rw [add_flat, Nat.zero_add]; exact h.cells hz
  · cases hz
theorem own_D {w : World} {g N c : Nat} {L : List Int} (k : Nat) (h : Own w g 3 1 N c L) : ∀ (j : Nat) (z : Int), (L.drop k)[j]? = some z → w.cell? ((⟨g, k, none⟩ : Addr).add j) = some (.int .i64 z) := fun j z hz => by
  rw [List.getElem?_drop] at hz
  rw [add_flat]; exact h.cells hz
set_option maxHeartbeats 8000000 in
set_option maxRecDepth 100000 in
theorem walk (len cap : Nat) (p : Option Addr) (len2 cap2 : Nat) (p2 : Option Addr) (w : World) (hl : len ≤ 1048576) (hl2 : len2 ≤ 1048576) (h : Hid (Code' w (.slice p len cap))) (h2 : Hid (Code' w (.slice p2 len2 cap2))) :
    Calls Try.prog 18 #[.slice p len cap, .slice p2 len2 cap2] w fun e w' => e = .returned (.bool true) ∧ Below w.heap.size w w' := by
  have hl' : ¬ (1048576 : Int) < (len : Int) := by omega
  have hl2' : ¬ (1048576 : Int) < (len2 : Int) := by omega
  clear h2
  go_enter Try.func18, Try.ntmps18
  go_upto_region 4 with (go_at_call 54; (with_reducible refine (drawMerge_is _ _ h).mono ?_); rintro e wd ⟨N, m, rs, B, k, ⟨c, hmc, rfl⟩, hmm, ⟨⟨hN2, hN6⟩, hl8, hR, hb_wd⟩, hk1, hk2⟩; have hs_wd := hb_wd.size; have HR := Lib.hid hR; have HM := Lib.hid hmm; clear hR)
  have hm8 : m ≤ 8 := by omega
  clear h hl8 hmm
  by_cases hy : nOk (N : Int) rs = true ∧ 0 ≤ k ∧ k < m ∧ 3 ≤ (N : Int)
  · obtain ⟨j, r, rfl, hj, hr⟩ := hasRun_nat (rs := rs) (k := k) ⟨hy.2.1, by have := HM.out; omega⟩
    have hn := hy.1
    have hN3 : 3 ≤ N := by have := hy.2.2.2; omega
    obtain ⟨n, hNn⟩ : ∃ n, N = n + 1 := ⟨N - 1, by omega⟩
    have hro := (nOk_true hn).2.2.2 j r hr
    obtain ⟨lo, hi, hlh0, he⟩ := two_endsN hro
    have hlh : (lo : Int) < (hi : Int) := by omega
    have hee := ends_in hn hr hlh he
    have hhN : hi < N := by omega
    have hlN : lo < N := by omega
    have hjm : j < m := by have := hy.2.2.1; omega
    have hjm' : (j : Int) < (m : Int) := by omega
    have hhN' : (hi : Int) < (N : Int) := by omega
    have hlN' : (lo : Int) < (N : Int) := by omega
    have hn2 : 2 ≤ n := by omega
    have hnN : nOk ((n + 1 : Nat) : Int) rs = true := by rw [← hNn]; exact hn
    have hok2 : nOk (n : Int) (mrg lo hi rs) = true := mrg_ok hnN hn2 hr hlh he
    have hwm : nWhole (n : Int) (mrg lo hi rs) = nWhole (N : Int) rs := by rw [hNn]; exact whole_merge hnN hn2 hr hlh he
    obtain ⟨q, hq⟩ : ∃ q, (mrg lo hi rs).length = q := ⟨_, rfl⟩
    have hq8 : q ≤ 8 := by have := mrg_lenM lo hi rs; have := HM.out; omega
    obtain ⟨ms, hms⟩ : ∃ ms, mrg lo hi rs = ms := ⟨_, rfl⟩
    obtain ⟨bw, hbw⟩ : ∃ b, nWhole (N : Int) rs = b := ⟨_, rfl⟩
    have c1 := fun w h => Lib.hid (iMerge_yes N n (some ⟨B, 0, none⟩) c m rs j r lo hi w h hn hN3 hNn HM.out hr hlh he)
    have c2 := fun w h => Lib.hid (sMerge_yes N n (some ⟨B, 0, none⟩) c m rs j r lo hi w h hn hN3 hNn HM.out hr hlh he)
    have c3 := fun q d hs w h hh hN hlow => Lib.hid (fit_is B 0 c m q d N rs hs w h hh HM.out (by omega) hn hN hlow)
    have c4 := fun p c hs (hlow : Low hs) w h => Lib.hid ((iMerge_yes N n p c m (rs.map (fitOne hs)) j (fitOne hs r) lo hi w h (fit_ok6 hn hlow) hN3 hNn (by rw [List.length_map]; exact HM.out) (by rw [List.getElem?_map, hr]; rfl) hlh he).mono (fun e w' ⟨v, he, hv⟩ => (⟨v, he, hv.p rfl⟩ : ∃ v, e = Ending.returned (.tuple #[.int .i64 n, v, .bool true]) ∧ NewP w (mrg lo hi (rs.map (fitOne hs))).length (mrg lo hi (rs.map (fitOne hs))) v w')))
    have c5 := fun w h => Lib.hid (iWholeM N (some ⟨B, 0, none⟩) c m rs bw w h HM.out hm8 hbw)
    rw [hms] at c1 c2 hq hok2 hwm
    have c6 := fun p c w h => Lib.hid (iWholeM n p c q ms bw w h hq hq8 (by rw [hwm]; exact hbw))
    have c1 := fun w h => Lib.hid ((c1 w h).out.mono (fun e w' ⟨v, he, hv⟩ => (⟨v, he, hv.p hq⟩ : ∃ v, e = Ending.returned (.tuple #[.int .i64 n, v, .bool true]) ∧ NewP w q ms v w')))
    have c2 := fun w h => Lib.hid ((c2 w h).out.mono (fun e w' ⟨v, he, hv⟩ => (⟨v, he, hv.q hq⟩ : ∃ v, e = Ending.returned (.tuple #[.int .i64 n, v, .bool true]) ∧ NewQ w q ms v w')))
    have c7 := fun hs (hlow : Low hs) (hhl : hs.length = n + 1) (heq : htAt hs hi = htAt hs lo) => fits_merge hnN hn2 hr hlh0 he hhl hlow heq
    have hmin : (if r.t < r.f then r.t else r.f) = (lo : Int) := by rcases he with ⟨a, b⟩ | ⟨a, b⟩ <;> split <;> omega
    have hmax : (if r.f < r.t then r.t else r.f) = (hi : Int) := by rcases he with ⟨a, b⟩ | ⟨a, b⟩ <;> split <;> omega
    obtain ⟨B', o', r', heq, hr', hBl, hG1, hG2, -, -⟩ := HR.out.at (i := j) hj
    cases heq
    obtain rfl : r = r' := by rw [hr] at hr'; cases hr'; rfl
    rw [Nat.zero_add] at hG1 hG2
    have HK := Lib.hid (And.intro hq hNn)
    clear hy hr hn hNn hnN he hok2 hq hms hwm hbw hr' hro hee
    go_upto_region 8 with (first
      | ((go_at_call 40; (with_reducible refine ((c1 _ ?_).out).mono ?_); (focus ((exact HR.out); done)); rintro e wi ⟨v, rfl, pi, ci, rfl, oi, hb_wi⟩; have hs_wi := hb_wi.size; (try simp at hs_wi)); have OI := Lib.hid oi; clear oi)
      | ((go_at_call 55; (with_reducible refine ((c2 _ ?_).out).mono ?_); (focus ((exact HR.out.below hb_wi); done)); rintro e ws ⟨v, rfl, gs, cs, rfl, hgs, os, hb_ws⟩; have hs_ws := hb_ws.size; (try simp at hs_ws)); have OS := Lib.hid os; have hls := os.lt; clear os)
      | ((go_at_call 56; (with_reducible refine (sameRuns_is _ _ _ _ q ms _ ?_ ?_ HK.out.1 (by omega)).mono ?_); (focus ((exact (OI.out.below hb_ws)); done)); (focus ((exact OS.out.runs); done)); rintro e wt ⟨rfl, hb_wt⟩; have hs_wt := hb_wt.size; (try simp at hs_wt))))
    have HRt := Lib.hid (HR.out.below (w' := wt) (by repeat (first | assumption | exact Below.refl _ _ | (refine below_chain ?_ (by assumption) (by first | omega | (simp <;> omega) | simp)) | (refine Below.alloc ?_ (by first | omega | (simp <;> omega) | simp) _) | (apply below_drewN) | (apply below_drew) | (refine Below.setCell ?_ (by first | omega | (simp <;> omega) | simp) _))))
    have OIt := Lib.hid (OI.out.below (w' := wt) (by repeat (first | assumption | exact Below.refl _ _ | (refine below_chain ?_ (by assumption) (by first | omega | (simp <;> omega) | simp)) | (refine Below.alloc ?_ (by first | omega | (simp <;> omega) | simp) _) | (apply below_drewN) | (apply below_drew) | (refine Below.setCell ?_ (by first | omega | (simp <;> omega) | simp) _))))
    have hBdt : Below wd.heap.size wd wt := (by repeat (first | assumption | exact Below.refl _ _ | (refine below_chain ?_ (by assumption) (by first | omega | (simp <;> omega) | simp)) | (refine Below.alloc ?_ (by first | omega | (simp <;> omega) | simp) _) | (apply below_drewN) | (apply below_drew) | (refine Below.setCell ?_ (by first | omega | (simp <;> omega) | simp) _)))
    have hG1 := cell_below_keep hBdt hG1
    have hG2 := cell_below_keep hBdt hG2
    have hBt : Below w.heap.size w wt := hb_wd.trans (hBdt.mono hs_wd)
    have HBt := Lib.hid hBt
    have hst := hBt.size
    clear hb_wi hb_ws hb_wt hb_wd hBdt HR OI OS c1 c2 hBt
    go_upto_region 9 with ((go_at_call 58; (with_reducible refine (some_is N len2 _ hN6 hl2).mono ?_); rintro e wh ⟨gh, ch, hs, rfl, hhl, hlow, hgh, oh, hb_wh⟩; have hs_wh := hb_wh.size; (try simp at hs_wh)))
    have g1 := cell_below_keep hb_wh hG1
    have g2 := cell_below_keep hb_wh hG2
    have hHw := oh.lt
    have HBh := Lib.hid hb_wh
    have OH := Lib.hid (And.intro oh (And.intro hhl hlow))
    clear oh hhl hlow hb_wh hG1 hG2
    go_region
    go_upto_region 10 with fail
    go_region
    go_upto_region 11 with fail
    obtain ⟨wb, hwb⟩ : ∃ wb, wb = wh.drew.drew := ⟨_, rfl⟩
    have ob : Own wb gh 3 1 N ch hs := by rw [hwb]; exact OH.out.1
    have hBb : Below wt.heap.size wt wb := by rw [hwb]; exact below_drew (below_drew HBh.out)
    rw [← hwb]
    have hhl := OH.out.2.1
    have hlow := OH.out.2.2
    have el := ob.cells (i := lo) (z := htAt hs lo) (htAt_get (L := hs) (x := (lo : Int)) (by omega) (by omega))
    have eh := ob.cells (i := hi) (z := htAt hs hi) (htAt_get (L := hs) (x := (hi : Int)) (by omega) (by omega))
    have fh := ob.frozen hi
    obtain ⟨z, hz⟩ : ∃ z, htAt hs lo = z := ⟨_, rfl⟩
    have hzb := low_at6 hlow (lo : Int)
    rw [hz] at el hzb
    obtain ⟨z1, z2⟩ := hzb
    have hbl := ob.lt
    have os := ob.set hi z (by omega)
    have hlow2 := hlow.set (i := hi) z1 z2
    have hq1 : htAt (hs.set hi z) (hi : Int) = htAt (hs.set hi z) (lo : Int) := by rw [ht_set_self z (by omega), ht_set_ne z (by omega), hz]
    have hl2' : (hs.set hi z).length = N := by rw [List.length_set]; exact hhl
    obtain ⟨h2, hh2⟩ : ∃ h2, hs.set hi z = h2 := ⟨_, rfl⟩
    rw [hh2] at os hlow2 hq1 hl2'
    have HW := Lib.hid (And.intro os (And.intro (hBb.setCell (p := ⟨gh, hi, none⟩) hgh (.int .i64 z)) (And.intro hl2' (And.intro hlow2 (c7 h2 hlow2 (by rw [hl2']; exact HK.out.2) hq1)))))
    clear os hh2 hz ob hlow2 hq1 hl2' hhl hlow hwb hBb c7
    go_upto_region 12 with fail
    obtain ⟨w2, hw2⟩ : ∃ w2, w2 = wb.setCell ⟨gh, hi, none⟩ (.int .i64 z) := ⟨_, rfl⟩
    rw [← hw2] at HW ⊢
    clear hw2 el eh fh OH HBh g1 g2
    have hs2 := HW.out.2.1.size
    go_upto_region 13 with (first
      | ((go_at_call 59; (with_reducible refine ((c3 _ _ _ _ ?_ ?_ HW.out.2.2.1 HW.out.2.2.2.1).out).mono ?_); (focus ((exact HRt.out.below HW.out.2.1); done)); (focus ((exact HW.out.1.ints); done)); rintro e wf ⟨gf, cf, rfl, hgf, of, hb_wf⟩; have hs_wf := hb_wf.size; (try simp at hs_wf)); have OF := Lib.hid of; clear of)
      | ((go_at_call 40; (with_reducible refine ((c4 _ _ _ HW.out.2.2.2.1 _ ?_).out).mono ?_); (focus ((exact OF.out.runs); done)); rintro e wx ⟨v, rfl, px, cx, rfl, ox, hb_wx⟩; have hs_wx := hb_wx.size; (try simp at hs_wx)); have OX := Lib.hid ox; clear ox))
    have hBx : Below w2.heap.size w2 wx := (by repeat (first | assumption | exact Below.refl _ _ | (refine below_chain ?_ (by assumption) (by first | omega | (simp <;> omega) | simp)) | (refine Below.alloc ?_ (by first | omega | (simp <;> omega) | simp) _) | (apply below_drewN) | (apply below_drew) | (refine Below.setCell ?_ (by first | omega | (simp <;> omega) | simp) _)))
    have OO := Lib.hid (HW.out.1.below hBx)
    have HBx := Lib.hid (HW.out.2.1.trans (hBx.mono hs2))
    have hsx := HBx.out.size
    obtain ⟨qx, hqx⟩ : ∃ q, (mrg lo hi (rs.map (fitOne h2))).length = q := ⟨_, rfl⟩
    have hqx8 : qx ≤ 8 := by have h1 := mrg_lenM lo hi (rs.map (fitOne h2)); rw [List.length_map] at h1; have := HM.out; omega
    rw [hqx] at ⊢
    have hchN : N ≤ ch := by obtain ⟨_, _, h1, _⟩ := HW.out.1.body; exact h1
    have hTl : (h2.take hi).length = hi * 1 := by rw [List.length_take, HW.out.2.2.1]; omega
    have hhc : (hi : Int) ≤ (ch : Int) := by omega
    have hhN1 : (hi : Int) + 1 ≤ (N : Int) := by omega
    clear hb_wf hb_wx hBx c3 c4
    have hcs : ch = hi + 1 ∨ ¬ ch = hi + 1 := Classical.em _
    rcases hcs with hc | hc
    · obtain rfl : N = ch := by omega
      have hki : (hi : Int) + 1 = (N : Int) := by omega
      have qw : IntKind.i64.wrap (N : Int) = (N : Int) := by rw [IntKind.wrap_i64]; omega
      have hm0 : (0 : Int) ≤ (N : Int) := by omega
      have hfl : (h2.eraseIdx hi).length = hi := by rw [List.length_eraseIdx, HW.out.2.2.1, if_pos hhN]; omega
      have hTD : h2.take hi ++ [] = h2.eraseIdx hi := by rw [List.eraseIdx_eq_take_drop_succ, List.drop_eq_nil_of_le (by rw [HW.out.2.2.1]; omega)]
      clear hc
      go_region_law (first
      | ((refine step_app0 _ (by rfl) _ _ _ (by rfl) 3 _ 1 8 Try.underlying38 info_int rfl (by decide) (by decide) _ 0 0 [] (by rfl) (Own.dr (Own.empty wx _ 1)) ⟨gh, 0, none⟩ hi N (h2.take hi) (by rfl) hTl (own_T hi (Own.dr (OO.out.alloc (.cells #[] 3)))) (by omega) ?_; intro g1 d1 w1 hown1 hg1 hloc1 hlt1; have HN1 := Lib.hid (And.intro hown1 (And.intro hg1 (And.intro hloc1 (And.intro (OO.out.below (below_gr (below_drew ((Below.refl wx.heap.size wx).alloc (Nat.le_refl _) (.cells #[] 3))) hg1 (Nat.le_refl _) (show wx.heap.size ≤ (wx.alloc (.cells #[] 3)).heap.size by simp))) hlt1)))); clear hown1 hg1 hloc1 hlt1; simp only [Nat.zero_add]))
      | ((refine step_app0 _ (by rfl) _ _ _ (by rfl) 3 _ 1 8 Try.underlying38 info_int rfl (by decide) (by decide) g1 hi d1 (h2.take hi) (by rfl) (by have := HN1.out.1; rw [Nat.zero_add, List.nil_append] at this; exact this) ⟨gh, 0, none⟩ 0 0 [] (by rfl) rfl (fun j z hz => by simp at hz) (by omega) ?_; intro g2 d2 wz hown2 hg2 hloc2 hlt2; have HN2 := Lib.hid (And.intro hown2 (And.intro hg2 hloc2)); clear hown2 hg2 hloc2)))
      have hg1l : wx.heap.size ≤ g1 := by
        rcases HN1.out.2.2.1 with e | e
        · omega
        · rw [e]; show wx.heap.size ≤ (wx.alloc (.cells #[] 3)).heap.size; simp
      have hB1 : Below wx.heap.size wx w1 := below_gr (below_drew ((Below.refl wx.heap.size wx).alloc (Nat.le_refl _) (.cells #[] 3))) HN1.out.2.1 (Nat.le_refl _) (show wx.heap.size ≤ (wx.alloc (.cells #[] 3)).heap.size by simp)
      have hB2 : Below wx.heap.size wx wz := below_gr hB1 HN2.out.2.1 (by omega) hB1.size
      have hO := HN2.out.1
      rw [hTD] at hO
      have HF := Lib.hid (And.intro hO (And.intro hB2 hfl))
      clear HN1 HN2 hg1l hB1 hO hB2 hfl
      have hBz : Below wt.heap.size wt wz := (HBx.out).trans (HF.out.2.1.mono hsx)
      have HRz := Lib.hid (HRt.out.below hBz)
      have OIz := Lib.hid (OIt.out.below hBz)
      have OXz := Lib.hid (OX.out.below HF.out.2.1)
      have hBe : Below w.heap.size w wz := HBt.out.trans (hBz.mono hst)
      have hsz := hBe.size
      clear hBz
      go_wp2_with (first
        | (go_at_call 31; (with_reducible refine ((c6 _ _ _ ?_).out).mono ?_); (focus ((exact OIz.out); done)); rintro e wu ⟨rfl, hb_wu⟩; have hs_wu := hb_wu.size; (try simp at hs_wu))
        | (go_at_call 31; (with_reducible refine ((c5 _ ?_).out).mono ?_); (focus ((exact HRz.out.below hb_wu); done)); rintro e wv ⟨rfl, hb_wv⟩; have hs_wv := hb_wv.size; (try simp at hs_wv))
        | (go_at_call 60; (with_reducible refine (iFitsM n _ _ _ _ qx _ _ _ true _ ?_ ?_ hqx HF.out.2.2 hqx8 (by omega) HW.out.2.2.2.2).mono ?_); (focus ((exact OXz.out.below (by repeat (first | assumption | exact Below.refl _ _ | (refine below_chain ?_ (by assumption) (by first | omega | (simp <;> omega) | simp)) | (refine Below.alloc ?_ (by first | omega | (simp <;> omega) | simp) _) | (apply below_drewN) | (apply below_drew) | (refine Below.setCell ?_ (by first | omega | (simp <;> omega) | simp) _)))); done)); (focus ((exact (HF.out.1.below (by repeat (first | assumption | exact Below.refl _ _ | (refine below_chain ?_ (by assumption) (by first | omega | (simp <;> omega) | simp)) | (refine Below.alloc ?_ (by first | omega | (simp <;> omega) | simp) _) | (apply below_drewN) | (apply below_drew) | (refine Below.setCell ?_ (by first | omega | (simp <;> omega) | simp) _)))).ints); done)); rintro e wy ⟨rfl, hb_wy⟩; have hs_wy := hb_wy.size; (try simp at hs_wy)))
      exact bodyPost_ret (v := .bool true) (by simp [results, Try.results18, go_sem]) rfl ⟨rfl, (by repeat (first | assumption | exact Below.refl _ _ | (refine below_chain ?_ (by assumption) (by first | omega | (simp <;> omega) | simp)) | (refine Below.alloc ?_ (by first | omega | (simp <;> omega) | simp) _) | (apply below_drewN) | (apply below_drew) | (refine Below.setCell ?_ (by first | omega | (simp <;> omega) | simp) _)))⟩
    · have qw : IntKind.i64.wrap ((hi : Int) + 1) = (hi : Int) + 1 := by rw [IntKind.wrap_i64]; omega
      have hk0 : (0 : Int) ≤ (hi : Int) + 1 := by omega
      have hsum : hi + (N - (hi + 1)) = N - 1 := by omega
      have hfl : (h2.eraseIdx hi).length = N - 1 := by rw [List.length_eraseIdx, HW.out.2.2.1, if_pos hhN]
      have hTD : h2.take hi ++ h2.drop (hi + 1) = h2.eraseIdx hi := by rw [List.eraseIdx_eq_take_drop_succ]
      have hDl : (h2.drop (hi + 1)).length = (N - (hi + 1)) * 1 := by rw [List.length_drop, HW.out.2.2.1]; omega
      go_region_law (first
      | ((refine step_app0 _ (by rfl) _ _ _ (by rfl) 3 _ 1 8 Try.underlying38 info_int rfl (by decide) (by decide) _ 0 0 [] (by rfl) (Own.dr (Own.empty wx _ 1)) ⟨gh, 0, none⟩ hi ch (h2.take hi) (by rfl) hTl (own_T hi (Own.dr (OO.out.alloc (.cells #[] 3)))) (by omega) ?_; intro g1 d1 w1 hown1 hg1 hloc1 hlt1; have HN1 := Lib.hid (And.intro hown1 (And.intro hg1 (And.intro hloc1 (And.intro (OO.out.below (below_gr (below_drew ((Below.refl wx.heap.size wx).alloc (Nat.le_refl _) (.cells #[] 3))) hg1 (Nat.le_refl _) (show wx.heap.size ≤ (wx.alloc (.cells #[] 3)).heap.size by simp))) hlt1)))); clear hown1 hg1 hloc1 hlt1; simp only [Nat.zero_add]))
      | ((refine step_app0 _ (by rfl) _ _ _ (by rfl) 3 _ 1 8 Try.underlying38 info_int rfl (by decide) (by decide) g1 hi d1 (h2.take hi) (by rfl) (by have := HN1.out.1; rw [Nat.zero_add, List.nil_append] at this; exact this) ⟨gh, hi + 1, none⟩ (N - (hi + 1)) (ch - (hi + 1)) (h2.drop (hi + 1)) (by rfl) hDl (own_D (hi + 1) HN1.out.2.2.2.1) (by omega) ?_; intro g2 d2 wz hown2 hg2 hloc2 hlt2; have HN2 := Lib.hid (And.intro hown2 (And.intro hg2 hloc2)); clear hown2 hg2 hloc2)))
      have hg1l : wx.heap.size ≤ g1 := by
        rcases HN1.out.2.2.1 with e | e
        · omega
        · rw [e]; show wx.heap.size ≤ (wx.alloc (.cells #[] 3)).heap.size; simp
      have hB1 : Below wx.heap.size wx w1 := below_gr (below_drew ((Below.refl wx.heap.size wx).alloc (Nat.le_refl _) (.cells #[] 3))) HN1.out.2.1 (Nat.le_refl _) (show wx.heap.size ≤ (wx.alloc (.cells #[] 3)).heap.size by simp)
      have hB2 : Below wx.heap.size wx wz := below_gr hB1 HN2.out.2.1 (by omega) hB1.size
      have hO := HN2.out.1
      rw [hTD] at hO
      have HF := Lib.hid (And.intro hO (And.intro hB2 hfl))
      clear HN1 HN2 hg1l hB1 hO hB2 hfl
      have hBz : Below wt.heap.size wt wz := (HBx.out).trans (HF.out.2.1.mono hsx)
      have HRz := Lib.hid (HRt.out.below hBz)
      have OIz := Lib.hid (OIt.out.below hBz)
      have OXz := Lib.hid (OX.out.below HF.out.2.1)
      have hBe : Below w.heap.size w wz := HBt.out.trans (hBz.mono hst)
      have hsz := hBe.size
      clear hBz
      go_wp2_with (first
        | (go_at_call 31; (with_reducible refine ((c6 _ _ _ ?_).out).mono ?_); (focus ((exact OIz.out); done)); rintro e wu ⟨rfl, hb_wu⟩; have hs_wu := hb_wu.size; (try simp at hs_wu))
        | (go_at_call 31; (with_reducible refine ((c5 _ ?_).out).mono ?_); (focus ((exact HRz.out.below hb_wu); done)); rintro e wv ⟨rfl, hb_wv⟩; have hs_wv := hb_wv.size; (try simp at hs_wv))
        | (go_at_call 60; (with_reducible refine (iFitsM n _ _ _ _ qx _ _ _ true _ ?_ ?_ hqx HF.out.2.2 hqx8 (by omega) HW.out.2.2.2.2).mono ?_); (focus ((exact OXz.out.below (by repeat (first | assumption | exact Below.refl _ _ | (refine below_chain ?_ (by assumption) (by first | omega | (simp <;> omega) | simp)) | (refine Below.alloc ?_ (by first | omega | (simp <;> omega) | simp) _) | (apply below_drewN) | (apply below_drew) | (refine Below.setCell ?_ (by first | omega | (simp <;> omega) | simp) _)))); done)); (focus ((exact (HF.out.1.below (by repeat (first | assumption | exact Below.refl _ _ | (refine below_chain ?_ (by assumption) (by first | omega | (simp <;> omega) | simp)) | (refine Below.alloc ?_ (by first | omega | (simp <;> omega) | simp) _) | (apply below_drewN) | (apply below_drew) | (refine Below.setCell ?_ (by first | omega | (simp <;> omega) | simp) _)))).ints); done)); rintro e wy ⟨rfl, hb_wy⟩; have hs_wy := hb_wy.size; (try simp at hs_wy)))
      exact bodyPost_ret (v := .bool true) (by simp [results, Try.results18, go_sem]) rfl ⟨rfl, (by repeat (first | assumption | exact Below.refl _ _ | (refine below_chain ?_ (by assumption) (by first | omega | (simp <;> omega) | simp)) | (refine Below.alloc ?_ (by first | omega | (simp <;> omega) | simp) _) | (apply below_drewN) | (apply below_drew) | (refine Below.setCell ?_ (by first | omega | (simp <;> omega) | simp) _)))⟩
  · have c1 := fun w h => Lib.hid (iMerge_no N k (some ⟨B, 0, none⟩) c m rs w h HM.out (by omega) hy)
    have c2 := fun w h => Lib.hid (sMerge_no N k (some ⟨B, 0, none⟩) c m rs w h HM.out (by omega) hy)
    clear hy
    go_wp2_with (first
      | (go_at_call 40; (with_reducible refine ((c1 _ ?_).out).mono ?_); (focus ((exact HR.out); done)); rintro e wi ⟨⟨qi, di, rfl⟩, hb_wi⟩; have hs_wi := hb_wi.size; (try simp at hs_wi))
      | (go_at_call 55; (with_reducible refine ((c2 _ ?_).out).mono ?_); (focus ((exact HR.out.below hb_wi); done)); rintro e ws ⟨⟨qs, rfl⟩, hb_ws⟩; have hs_ws := hb_ws.size; (try simp at hs_ws))
      | (go_at_call 56; (with_reducible refine (sameRuns_nil _ _ _ _ _).mono ?_); rintro e wt ⟨rfl, hb_wt⟩; have hs_wt := hb_wt.size; (try simp at hs_wt)))
    exact bodyPost_ret (v := .bool true) (by simp [results, Try.results18, go_sem]) rfl ⟨rfl, (by repeat (first | assumption | exact Below.refl _ _ | (refine below_chain ?_ (by assumption) (by first | omega | (simp <;> omega) | simp)) | (refine Below.alloc ?_ (by first | omega | (simp <;> omega) | simp) _) | (apply below_drewN) | (apply below_drew) | (refine Below.setCell ?_ (by first | omega | (simp <;> omega) | simp) _)))⟩

set_option maxRecDepth 100000 in
theorem walk_long (len cap : Nat) (p : Option Addr) (len1 cap1 : Nat) (p1 : Option Addr) (w : World) (hl : 1048576 < len ∨ 1048576 < len1) :
    Calls Try.prog 18 #[.slice p len cap, .slice p1 len1 cap1] w fun e w' => e = .returned (.bool true) ∧ Below w.heap.size w w' := by
  by_cases h0 : (1048576 : Int) < (len : Int)
  · go_enter Try.func18, Try.ntmps18
    go_wp2
    go_ret
    exact ⟨rfl, Below.refl _ _⟩
  · have hl' : (1048576 : Int) < (len1 : Int) := by omega
    clear hl
    go_enter Try.func18, Try.ntmps18
    go_wp2
    go_ret
    exact ⟨rfl, Below.refl _ _⟩

set_option maxRecDepth 100000 in
theorem lifted (os : Os) (started : os.Started) (H : Type) (enc : TypeId × Value → H) :
    ReturnsInHanded {} Try.checked os 18 .any (Rows.fnTreesMergeSpec.pre6 enc Try.prog Try.f18 Rows.fnTreesMergeRow.domain false) (Rows.fnTreesMergeSpec.post enc Try.prog Try.f18 false true false false) := by
  refine returnsInHanded_of_change (C := Try.checked) own started (by kernel_rfl) Try.func18
    (ChangeSpec.witness6 (enc := enc) (C := Try.checked) false ⟨#[], #[.slice none 0 0, .slice none 0 0], []⟩ 8 (by kernel_rfl) (by kernel_rfl) (by kernel_rfl) (by kernel_rfl)) ?_
  intro W base args ds gs before hval0 hW hcnd _
  have hval : ∀ (j : Nat) t v, Try.f18.params[j]? = some t → args[j]? = some v → Value.okWide Try.prog W .any base t v := hval0
  have hW' := hW
  obtain ⟨p, q, hA0, hV, rfl, hfz, hnd⟩ := hW
  have hA : DataW.TrodAll enc Try.prog W 0 (fun _ => true) true Try.f18.params.toList args.toList ds p := hA0
  rw [Try.params18] at hA hval
  obtain ⟨v0, vs0, d0, ds0, p0, q0, hargs, rfl, rfl, h0, r0⟩ := trodAll_cons hA
  obtain ⟨v1, vs1, d1, ds1, p1, q1, rfl, rfl, rfl, h1, r1⟩ := trodAll_cons r0
  obtain ⟨rfl, rfl, rfl⟩ := trodAll_nil r1
  obtain rfl : args = #[v0, v1] := by cases args; simp_all
  obtain ⟨rfl, rfl⟩ := trodVars_none hV
  obtain ⟨a0, len0, cap0, rfl⟩ := okWide_slice Try.underlying22 (hval 0 22 v0 rfl rfl)
  have k0 := h0
  have lt0 : ∀ x ∈ p0, x.block < W.heap.size := by obtain ⟨m, hm⟩ := k0; exact DataW.trod_lt m _ _ _ hm
  obtain ⟨z0, w0⟩ : ∃ zs, IsRow .u8 W a0 len0 cap0 zs := by
    obtain ⟨fuel, hf⟩ := h0
    rcases open_ints Try.underlying22 Try.underlying5 (by kernel_rfl) hf with ⟨hcs, _⟩ | ⟨x, l, c, zs, hcs, _, hl, hm, hz, _, hcell, hwz⟩
    · simp [Value.cells] at hcs
      obtain ⟨rfl, rfl, rfl⟩ := hcs
      exact ⟨[], .inl ⟨rfl, rfl, rfl, rfl⟩⟩
    · simp [Value.cells] at hcs
      obtain ⟨rfl, rfl, rfl⟩ := hcs
      exact ⟨zs, .inr ⟨_, rfl, hl, hm, by simpa using hz, hcell, hwz⟩⟩
  obtain ⟨a1, len1, cap1, rfl⟩ := okWide_slice Try.underlying22 (hval 1 22 v1 rfl rfl)
  have k1 := h1
  have lt1 : ∀ x ∈ p1, x.block < W.heap.size := by obtain ⟨m, hm⟩ := k1; exact DataW.trod_lt m _ _ _ hm
  obtain ⟨z1, w1⟩ : ∃ zs, IsRow .u8 W a1 len1 cap1 zs := by
    obtain ⟨fuel, hf⟩ := h1
    rcases open_ints Try.underlying22 Try.underlying5 (by kernel_rfl) hf with ⟨hcs, _⟩ | ⟨x, l, c, zs, hcs, _, hl, hm, hz, _, hcell, hwz⟩
    · simp [Value.cells] at hcs
      obtain ⟨rfl, rfl, rfl⟩ := hcs
      exact ⟨[], .inl ⟨rfl, rfl, rfl, rfl⟩⟩
    · simp [Value.cells] at hcs
      obtain ⟨rfl, rfl, rfl⟩ := hcs
      exact ⟨zs, .inr ⟨_, rfl, hl, hm, by simpa using hz, hcell, hwz⟩⟩
  clear hA0 hval0
  have hw : Calls Try.prog 18 #[.slice a0 len0 cap0, .slice a1 len1 cap1] W fun e w' => e = .returned (.bool true) ∧ Below W.heap.size W w' := by
    by_cases hl : len0 ≤ 1048576
    · by_cases hm : len1 ≤ 1048576
      · exact walk len0 cap0 a0 len1 cap1 a1 W hl hm (Lib.hid (code_of_row w0 hl)) (Lib.hid (code_of_row w1 hm))
      · exact walk_long len0 cap0 a0 len1 cap1 a1 W (by omega)
    · exact walk_long len0 cap0 a0 len1 cap1 a1 W (by omega)
  refine hw.mono fun e W' ⟨he, bel⟩ => ?_
  subst he
  exact ⟨_, rfl, _, _, _, [], _, [], hW', trodAll_mk1 (shut_bool Try.underlying4 _), (trodAll_cons_mk (Below.trod laidOut (by kernel_rfl) (of_decide_eq_true (by kernel_rfl)) k0 bel lt0) (trodAll_cons_mk (Below.trod laidOut (by kernel_rfl) (of_decide_eq_true (by kernel_rfl)) k1 bel lt1) trodAll_mk0)), rfl, bel.frame _, fun h => by cases h⟩

theorem over : Rows.fnTreesMergeRow.holds Try.pinned (OpenSpec.ofChange Rows.fnTreesMergeSpec) :=
  OpenClaim.holds_of_wide 18 Try.f18 rfl rfl rfl rfl rfl rfl rfl ⟨rfl, rfl, rfl, rfl, rfl⟩ rfl rfl rfl rfl rfl (by kernel_rfl) Try.func18 (by unfold joinedFacts; rw [seat_enter, seat_lift, seat_make]; kernel_rfl)
    (of_decide_eq_true (by kernel_rfl)) (by unfold Func.isWrapper; first | (rw [if_pos (by decide +kernel)]; kernel_rfl) | (rw [if_neg (by decide +kernel)]; exact ⟨rfl, rfl⟩))
    (fun os started H enc _ => lifted os started H enc)

theorem proved : Rows.FnTreesMergeSaid := over
end Go.Proofs.Ytenllemaccacgaa.fnTreesMerge

