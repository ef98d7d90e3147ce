/-
  For every code and every second list of bytes the law FnShareBest returns true: impl.ShareOf answers as the reference model does; one length alone has the whole amount; where one share is made 1 less and another one 1 greater, impl.ShareFar is not less than at the shares. No condition: every two lists of bytes are taken.
-/
import Derived.Test.YtjfbkafekkbcdaaSi
import Derived.Test.YtjfbkafekkbcdaaSj
import Derived.Test.YtjfbkafekkbcdaaDSz
namespace Go.Proofs.Ytjfbkafekkbcdaa.fnShareBest
open Go.ChangeShapes Go.WideShapes Go.ChangeAt Go.RowKit
set_option linter.unusedVariables false

theorem ints_cells {w : World} {a : Addr} {zs : List Int} (h : Ints w (some a) zs) : ∀ (j : Nat) (z : Int), zs[j]? = some z → w.cell? (a.add j) = some (.int .i64 z) := by
  intro j z hz
  rcases h with rfl | ⟨B, o, e, hB, hc⟩
  · simp at hz
  · cases e; rw [Go.WideShapes.add_plain]; exact hc j z hz
theorem nth_set {l : List Int} {i : Nat} (hi : i < l.length) (v : Int) (j : Nat) : nth (l.set i v) j = if j = i then v else nth l j := by
  unfold nth
  rw [List.getElem?_set]
  by_cases e : i = j
  · subst e; simp [hi]
  · rw [if_neg e, if_neg (fun h => e h.symm)]
/-- another one -/
theorem other {n i e : Nat} (hi : i < n) (he : e < n - 1) : (i + 1 + e) % n < n ∧ (i + 1 + e) % n ≠ i := by
  refine ⟨Nat.mod_lt _ (by omega), fun h => ?_⟩
  by_cases h1 : i + 1 + e < n
  · rw [Nat.mod_eq_of_lt h1] at h; omega
  · have : (i + 1 + e) % n = i + 1 + e - n := by
      rw [Nat.mod_eq_sub_mod (by omega), Nat.mod_eq_of_lt (by omega)]
    omega
set_option maxHeartbeats 8000000 in
set_option maxRecDepth 100000 in
theorem walk (len cap : Nat) (p : Option Addr) (len2 cap2 : Nat) (p2 : Option Addr) (w : World) (hl : len ≤ 1048576) (hl2 : len2 ≤ 1048576) (h : Hid (Code' w (.slice p len cap))) (h2 : Hid (Code' w (.slice p2 len2 cap2))) :
    Calls Try.prog 4 #[.slice p len cap, .slice p2 len2 cap2] w fun e w' => e = .returned (.bool true) ∧ Below w.heap.size w w' := by
  have hl' : ¬ (1048576 : Int) < (len : Int) := by omega
  have hl2' : ¬ (1048576 : Int) < (len2 : Int) := by omega
  clear h2
  go_enter Try.func4, Try.ntmps4
  go_upto_region 4 with (go_at_call 14; (with_reducible refine (drawShareOf_is _ _ h).mono ?_); rintro e wd ⟨ls, n, P, c, a, rfl, ⟨hln, hn6⟩, ⟨ha0, ha1⟩, hwP, ho, hb_wd⟩; have hs_wd := hb_wd.size; have HR := Lib.hid ho; have HM := Lib.hid hln; have hPl := ho.lt; clear ho hln)
  clear h
  obtain ⟨b, hb⟩ : ∃ b, amtOk ls a = b := ⟨_, rfl⟩
  cases b
  · have c1 := fun w h => Lib.hid (iShareOf_no n c (some ⟨P, 0, none⟩) ls a w h HM.out (by omega) hb)
    have c2 := fun w h => Lib.hid (sShareOf_no n c (some ⟨P, 0, none⟩) ls a w h HM.out (by omega) hb)
    clear hb
    go_wp2_with (first | (go_at_call 15; (with_reducible refine ((c1 _ ?_).out).mono ?_); (focus ((exact HR.out.ints); done)); rintro e wi ⟨⟨q, d, rfl⟩, hb_wi⟩; have hs_wi := hb_wi.size; (try simp at hs_wi)) | (go_at_call 16; (with_reducible refine ((c2 _ ?_).out).mono ?_); (focus ((exact HR.out.ints.below hb_wi); done)); rintro e ws ⟨⟨g, rfl⟩, hb_ws⟩; have hs_ws := hb_ws.size; (try simp at hs_ws)) | (go_at_call 17; (with_reducible refine (sameInts_nil _ _ _ _ _).mono ?_); rintro e wt ⟨rfl, hb_wt⟩; have hs_wt := hb_wt.size; (try simp at hs_wt)))
    go_ret
    exact ⟨rfl, (by repeat (first | assumption | exact Below.refl _ _ | (refine below_chain ?_ (by assumption) (by first | omega | (simp <;> omega) | simp)) | (refine Below.alloc ?_ (by first | omega | (simp <;> omega) | simp) _) | (apply below_drewN) | (apply below_drew) | (refine Below.setCell ?_ (by first | omega | (simp <;> omega) | simp) _)))⟩
  · obtain ⟨hlo, a0, a1⟩ := amtOk_true.1 hb
    have hn1 : 1 ≤ n := by have := (lenOk_true.1 hlo).1; have := HM.out; omega
    have c1 := fun w h => Lib.hid (iShareOf_yes n c (some ⟨P, 0, none⟩) ls a w h HM.out hb)
    have c2 := fun w h => Lib.hid (sShareOf_yes n c (some ⟨P, 0, none⟩) ls a w h HM.out hb)
    have HL := Lib.hid (And.intro hlo (And.intro hb (show (shr ls a).length = n by rw [shr_len]; exact HM.out)))
    clear hlo hb
    go_upto_region 8 with (first | ((go_at_call 15; (with_reducible refine ((c1 _ ?_).out).mono ?_); (focus ((exact HR.out.ints); done)); rintro e wi ⟨g, cg, rfl, hg, og, hb_wi⟩; have hs_wi := hb_wi.size; (try simp at hs_wi)); have OG := Lib.hid og; clear og) | ((go_at_call 16; (with_reducible refine ((c2 _ ?_).out).mono ?_); (focus ((exact HR.out.ints.below hb_wi); done)); rintro e ws ⟨g2, cg2, rfl, hg2, og2, hb_ws⟩; have hs_ws := hb_ws.size; (try simp at hs_ws)); have OG2 := Lib.hid og2; clear og2) | (go_at_call 17; (with_reducible refine (sameInts_at' HL.out.2.2 _ _ _ _ _ ?_ ?_ (by omega)).mono ?_); (focus ((exact (OG.out.below (by repeat (first | assumption | exact Below.refl _ _ | (refine below_chain ?_ (by assumption) (by first | omega | (simp <;> omega) | simp)) | (refine Below.alloc ?_ (by first | omega | (simp <;> omega) | simp) _) | (apply below_drewN) | (apply below_drew) | (refine Below.setCell ?_ (by first | omega | (simp <;> omega) | simp) _)))).ints); done)); (focus ((exact OG2.out.ints); done)); rintro e wt ⟨rfl, hb_wt⟩; have hs_wt := hb_wt.size; (try simp at hs_wt)))
    have hBi : Below wi.heap.size wi wt := (by repeat (first | assumption | exact Below.refl _ _ | (refine below_chain ?_ (by assumption) (by first | omega | (simp <;> omega) | simp)) | (refine Below.alloc ?_ (by first | omega | (simp <;> omega) | simp) _) | (apply below_drewN) | (apply below_drew) | (refine Below.setCell ?_ (by first | omega | (simp <;> omega) | simp) _)))
    have hBd : Below wd.heap.size wd wt := (by repeat (first | assumption | exact Below.refl _ _ | (refine below_chain ?_ (by assumption) (by first | omega | (simp <;> omega) | simp)) | (refine Below.alloc ?_ (by first | omega | (simp <;> omega) | simp) _) | (apply below_drewN) | (apply below_drew) | (refine Below.setCell ?_ (by first | omega | (simp <;> omega) | simp) _)))
    have HX := Lib.hid (And.intro (HR.out.below hBd) (And.intro (OG.out.below hBi) (hb_wd.trans (hBd.mono hs_wd))))
    have hsW := HX.out.2.2.size
    have hPt := HX.out.1.lt
    have hgt := HX.out.2.1.lt
    have hgP : w.heap.size ≤ g := by omega
    clear hb_wd hb_wi hb_ws hb_wt hBi hBd HR OG OG2 c1 c2
    by_cases h2n : n < 2
    · obtain rfl : n = 1 := by omega
      have e0 := HX.out.2.1.cells (i := 0) (z := a) (by
        have h1 := shr_sum (a := a) HL.out.1
        have h3 := HL.out.2.2
        match hs : shr ls a, h3 with
        | [z], _ => rw [hs] at h1; simp [tot] at h1; simp [h1])
      go_wp2_with fail
      go_ret
      exact ⟨rfl, HX.out.2.2⟩
    · have hn2 : 2 ≤ n := by omega
      have hn2' : ¬ (n : Int) < 2 := by omega
      obtain ⟨i, hi⟩ : ∃ i, len2 % n = i := ⟨_, rfl⟩
      obtain ⟨u, hu⟩ : ∃ u, len2 / 7 = u := ⟨_, rfl⟩
      obtain ⟨e, he⟩ : ∃ e, u % (n - 1) = e := ⟨_, rfl⟩
      obtain ⟨k, hk⟩ : ∃ k, (i + 1 + e) % n = k := ⟨_, rfl⟩
      have hin : i < n := by rw [← hi]; exact Nat.mod_lt _ (by omega)
      have hen : e < n - 1 := by rw [← he]; exact Nat.mod_lt _ (by omega)
      obtain ⟨hkn, hki⟩ := other hin hen
      rw [hk] at hkn hki
      have m1 : (len2 : Int) % (n : Int) = (i : Int) := by rw [← hi]; rfl
      have m1' : (len2 : Int).tmod (n : Int) = (i : Int) := by rw [← hi]; rfl
      have m2 : (len2 : Int) / 7 = (u : Int) := by rw [← hu]; rfl
      have m2' : (len2 : Int).tdiv 7 = (u : Int) := by rw [← hu]; rfl
      have m3 : (u : Int) % ((n : Int) - 1) = (e : Int) := by rw [← he, show ((n : Int) - 1) = ((n - 1 : Nat) : Int) by omega]; rfl
      have m3' : (u : Int).tmod ((n : Int) - 1) = (e : Int) := by rw [← he, show ((n : Int) - 1) = ((n - 1 : Nat) : Int) by omega]; rfl
      have m4 : ((i : Int) + 1 + (e : Int)) % (n : Int) = (k : Int) := by rw [← hk]; rfl
      have m4' : ((i : Int) + 1 + (e : Int)).tmod (n : Int) = (k : Int) := by rw [← hk]; rfl
      have hnz : ((n : Int) == 0) = false := by
        have : ¬ (n : Int) = 0 := by omega
        simpa using this
      have hnz1 : ((n : Int) - 1 == 0) = false := by
        have : ¬ (n : Int) - 1 = 0 := by omega
        simpa using this
      have hnz2 : ¬ (n : Int) = 0 := by omega
      have hnz3 : ¬ (n : Int) - 1 = 0 := by omega
      have he6 : e ≤ 6 := by omega
      clear hi hu he hk hen
      have HIr := Lib.hid ((HX.out.2.1.alloc (.cells #[] 3)).ints)
      go_upto_region 13 with (at_builtin; refine wp_append _ rfl _ _ 23 rfl 3 _ 1 8 Try.underlying23 info_int rfl (by decide) (by decide) _ 0 0 [] rfl (Own.empty _ _ _) _ _ _ (shr ls a) rfl (by rw [HL.out.2.2]; omega) (ints_cells HIr.out) (by omega) ?_; intro go co wo hown hgr hloc hsz; have HN := Lib.hid (And.intro hown (And.intro hgr hloc)); clear hown hgr hloc; simp only [Nat.zero_add])
      obtain ⟨hown, hgr, hloc⟩ := HN.out
      rw [Nat.zero_add, List.nil_append] at hown
      have hgo : wt.heap.size ≤ go := by
        rcases hloc with e' | e'
        · omega
        · simp at e'; omega
      have hbo : Below wt.heap.size wt wo := below_gr ((Below.refl wt.heap.size wt).alloc (Nat.le_refl _) _) hgr (Nat.le_refl _) (by simp)
      have hso := hbo.size
      have hlo := hown.lt
      obtain ⟨x, hx⟩ : ∃ x, sh ls a i = x := ⟨_, rfl⟩
      obtain ⟨y, hy⟩ : ∃ y, sh ls a k = y := ⟨_, rfl⟩
      have hx' : (shr ls a)[i]? = some x := by rw [← hx, ← nth_shr (by have := HM.out; omega)]; exact at_nth (by have := HL.out.2.2; omega)
      have hy' : (shr ls a)[k]? = some y := by rw [← hy, ← nth_shr (by have := HM.out; omega)]; exact at_nth (by have := HL.out.2.2; omega)
      have hxl := sh_low HL.out.2.1 (i := i) (by have := HM.out; omega)
      have hyl := sh_low HL.out.2.1 (i := k) (by have := HM.out; omega)
      rw [hx] at hxl
      rw [hy] at hyl
      obtain ⟨x0, x1⟩ := hxl
      obtain ⟨y0, y1⟩ := hyl
      obtain ⟨ys, hys⟩ : ∃ ys, ((shr ls a).set i (x - 1)).set k (y + 1) = ys := ⟨_, rfl⟩
      have hyn : ys.length = n := by rw [← hys, List.length_set, List.length_set]; exact HL.out.2.2
      have hsi : i < (shr ls a).length := by have := HL.out.2.2; omega
      have hsk : k < ((shr ls a).set i (x - 1)).length := by rw [List.length_set]; have := HL.out.2.2; omega
      have hnn : ∀ j, nth ys j = if j = k then y + 1 else if j = i then x - 1 else nth (shr ls a) j := fun j => by rw [← hys, nth_set hsk, nth_set hsi]
      have hry : rngOk ls ys := ⟨by rw [hyn]; exact HM.out.symm, fun z hz => by
        obtain ⟨j, hj⟩ := List.getElem?_of_mem hz
        have hjl := (List.getElem?_eq_some_iff.1 hj).1
        rw [← nth_at hj, hnn]
        split
        · omega
        · split
          · omega
          · have := sh_low HL.out.2.1 (i := j) (by have := HM.out; omega)
            rw [nth_shr (by have := HM.out; omega)]
            omega⟩
      have hle : farS ls a (shr ls a) ≤ farS ls a ys := by
        rw [farS_yes HL.out.2.1 hry, farS_yes HL.out.2.1 (shr_rng HL.out.2.1)]
        refine shr_swap (i := i) (k := k) HL.out.1 (by have := HM.out; omega) (by have := HM.out; omega) (Ne.symm hki) ?_ ?_ (fun j hj hji hjk => ?_)
        · rw [hnn, if_neg (Ne.symm hki), if_pos rfl, hx]
        · rw [hnn, if_pos rfl, hy]
        · rw [hnn, if_neg hjk, if_neg hji, nth_shr hj]
      obtain ⟨v1, hv1⟩ : ∃ v1, farS ls a ys = v1 := ⟨_, rfl⟩
      obtain ⟨v2, hv2⟩ : ∃ v2, farS ls a (shr ls a) = v2 := ⟨_, rfl⟩
      rw [hv1, hv2] at hle
      have c1 := fun d q w h hq => Lib.hid (iShareFar n c n d (some ⟨P, 0, none⟩) q ls ys a v1 w h hq HM.out hyn (by omega) (by omega) hv1)
      have c2 := fun d q w h hq => Lib.hid (iShareFar n c n d (some ⟨P, 0, none⟩) q ls (shr ls a) a v2 w h hq HM.out HL.out.2.2 (by omega) (by omega) hv2)
      have e1 := hown.cells hx'
      have e2 := hown.cells hy'
      have f1 := hown.frozen i
      have f2 := hown.frozen k
      have hik : ¬ i = k := Ne.symm hki
      have HO2 : Hid (Own ((wo.setCell ⟨go, i, none⟩ (.int .i64 (x - 1))).setCell ⟨go, k, none⟩ (.int .i64 (y + 1))) go 3 1 n co ys) := Lib.hid (by rw [← hys]; exact (hown.set i (x - 1) hsi).set k (y + 1) hsk)
      have HB2 : Hid (Below wt.heap.size wt ((wo.setCell ⟨go, i, none⟩ (.int .i64 (x - 1))).setCell ⟨go, k, none⟩ (.int .i64 (y + 1)))) := Lib.hid ((hbo.setCell hgo _).setCell hgo _)
      have HE := Lib.hid hle
      clear hown hgr hloc HN hx hy hx' hy' hys hyn hsi hsk hnn hry hle hv1 hv2 hbo
      go_wp2_with (first
        | (go_at_call 20; (with_reducible refine ((c1 _ _ _ ?_ ?_).out).mono ?_); (focus (exact (HX.out.1.below HB2.out).ints; done)); (focus (exact HO2.out.ints; done)); rintro e wx ⟨rfl, hb_wx⟩; have HB3 := Lib.hid (HB2.out.trans (hb_wx.mono HB2.out.size)); clear hb_wx)
        | (go_at_call 20; (with_reducible refine ((c2 _ _ _ ?_ ?_).out).mono ?_); (focus (exact (HX.out.1.below HB3.out).ints; done)); (focus (exact (HX.out.2.1.below HB3.out).ints; done)); rintro e wy ⟨rfl, hb_wy⟩))
      go_ret
      exact ⟨ret_bool (decide_eq_true HE.out), (HX.out.2.2.trans (HB3.out.mono hsW)).trans (hb_wy.mono (by have := HB3.out.size; omega))⟩

set_option maxRecDepth 100000 in
theorem walk_long (len cap : Nat) (p : Option Addr) (len1 cap1 : Nat) (p1 : Option Addr) (w : World) (hl : 1048576 < len ∨ 1048576 < len1) :
    Calls Try.prog 4 #[.slice p len cap, .slice p1 len1 cap1] w fun e w' => e = .returned (.bool true) ∧ Below w.heap.size w w' := by
  by_cases h0 : (1048576 : Int) < (len : Int)
  · go_enter Try.func4, Try.ntmps4
    go_wp2
    go_ret
    exact ⟨rfl, Below.refl _ _⟩
  · have hl' : (1048576 : Int) < (len1 : Int) := by omega
    clear hl
    go_enter Try.func4, Try.ntmps4
    go_wp2
    go_ret
    exact ⟨rfl, Below.refl _ _⟩

set_option maxRecDepth 100000 in
theorem lifted (os : Os) (started : os.Started) (H : Type) (enc : TypeId × Value → H) :
    ReturnsInHanded {} Try.checked os 4 .any (Rows.fnShareBestSpec.pre6 enc Try.prog Try.f4 Rows.fnShareBestRow.domain false) (Rows.fnShareBestSpec.post enc Try.prog Try.f4 false true false false) := by
  refine returnsInHanded_of_change (C := Try.checked) own started (by kernel_rfl) Try.func4
    (ChangeSpec.witness6 (enc := enc) (C := Try.checked) false ⟨#[], #[.slice none 0 0, .slice none 0 0], []⟩ 8 (by kernel_rfl) (by kernel_rfl) (by kernel_rfl) (by kernel_rfl)) ?_
  intro W base args ds gs before hval0 hW hcnd _
  have hval : ∀ (j : Nat) t v, Try.f4.params[j]? = some t → args[j]? = some v → Value.okWide Try.prog W .any base t v := hval0
  have hW' := hW
  obtain ⟨p, q, hA0, hV, rfl, hfz, hnd⟩ := hW
  have hA : DataW.TrodAll enc Try.prog W 0 (fun _ => true) true Try.f4.params.toList args.toList ds p := hA0
  rw [Try.params4] at hA hval
  obtain ⟨v0, vs0, d0, ds0, p0, q0, hargs, rfl, rfl, h0, r0⟩ := trodAll_cons hA
  obtain ⟨v1, vs1, d1, ds1, p1, q1, rfl, rfl, rfl, h1, r1⟩ := trodAll_cons r0
  obtain ⟨rfl, rfl, rfl⟩ := trodAll_nil r1
  obtain rfl : args = #[v0, v1] := by cases args; simp_all
  obtain ⟨rfl, rfl⟩ := trodVars_none hV
  obtain ⟨a0, len0, cap0, rfl⟩ := okWide_slice Try.underlying22 (hval 0 22 v0 rfl rfl)
  have k0 := h0
  have lt0 : ∀ x ∈ p0, x.block < W.heap.size := by obtain ⟨m, hm⟩ := k0; exact DataW.trod_lt m _ _ _ hm
  obtain ⟨z0, w0⟩ : ∃ zs, IsRow .u8 W a0 len0 cap0 zs := by
    obtain ⟨fuel, hf⟩ := h0
    rcases open_ints Try.underlying22 Try.underlying5 (by kernel_rfl) hf with ⟨hcs, _⟩ | ⟨x, l, c, zs, hcs, _, hl, hm, hz, _, hcell, hwz⟩
    · simp [Value.cells] at hcs
      obtain ⟨rfl, rfl, rfl⟩ := hcs
      exact ⟨[], .inl ⟨rfl, rfl, rfl, rfl⟩⟩
    · simp [Value.cells] at hcs
      obtain ⟨rfl, rfl, rfl⟩ := hcs
      exact ⟨zs, .inr ⟨_, rfl, hl, hm, by simpa using hz, hcell, hwz⟩⟩
  obtain ⟨a1, len1, cap1, rfl⟩ := okWide_slice Try.underlying22 (hval 1 22 v1 rfl rfl)
  have k1 := h1
  have lt1 : ∀ x ∈ p1, x.block < W.heap.size := by obtain ⟨m, hm⟩ := k1; exact DataW.trod_lt m _ _ _ hm
  obtain ⟨z1, w1⟩ : ∃ zs, IsRow .u8 W a1 len1 cap1 zs := by
    obtain ⟨fuel, hf⟩ := h1
    rcases open_ints Try.underlying22 Try.underlying5 (by kernel_rfl) hf with ⟨hcs, _⟩ | ⟨x, l, c, zs, hcs, _, hl, hm, hz, _, hcell, hwz⟩
    · simp [Value.cells] at hcs
      obtain ⟨rfl, rfl, rfl⟩ := hcs
      exact ⟨[], .inl ⟨rfl, rfl, rfl, rfl⟩⟩
    · simp [Value.cells] at hcs
      obtain ⟨rfl, rfl, rfl⟩ := hcs
      exact ⟨zs, .inr ⟨_, rfl, hl, hm, by simpa using hz, hcell, hwz⟩⟩
  clear hA0 hval0
  have hw : Calls Try.prog 4 #[.slice a0 len0 cap0, .slice a1 len1 cap1] W fun e w' => e = .returned (.bool true) ∧ Below W.heap.size W w' := by
    by_cases hl : len0 ≤ 1048576
    · by_cases hm : len1 ≤ 1048576
      · exact walk len0 cap0 a0 len1 cap1 a1 W hl hm (Lib.hid (code_of_row w0 hl)) (Lib.hid (code_of_row w1 hm))
      · exact walk_long len0 cap0 a0 len1 cap1 a1 W (by omega)
    · exact walk_long len0 cap0 a0 len1 cap1 a1 W (by omega)
  refine hw.mono fun e W' ⟨he, bel⟩ => ?_
  subst he
  exact ⟨_, rfl, _, _, _, [], _, [], hW', trodAll_mk1 (shut_bool Try.underlying4 _), (trodAll_cons_mk (Below.trod laidOut (by kernel_rfl) (of_decide_eq_true (by kernel_rfl)) k0 bel lt0) (trodAll_cons_mk (Below.trod laidOut (by kernel_rfl) (of_decide_eq_true (by kernel_rfl)) k1 bel lt1) trodAll_mk0)), rfl, bel.frame _, fun h => by cases h⟩

theorem over : Rows.fnShareBestRow.holds Try.pinned (OpenSpec.ofChange Rows.fnShareBestSpec) :=
  OpenClaim.holds_of_wide 4 Try.f4 rfl rfl rfl rfl rfl rfl rfl ⟨rfl, rfl, rfl, rfl, rfl⟩ rfl rfl rfl rfl rfl (by kernel_rfl) Try.func4 (by kernel_rfl)
    (of_decide_eq_true (by kernel_rfl)) (by unfold Func.isWrapper; first | (rw [if_pos (by decide +kernel)]; kernel_rfl) | (rw [if_neg (by decide +kernel)]; exact ⟨rfl, rfl⟩))
    (fun os started H enc _ => lifted os started H enc)

theorem proved : Rows.FnShareBestSaid := over
end Go.Proofs.Ytjfbkafekkbcdaa.fnShareBest

