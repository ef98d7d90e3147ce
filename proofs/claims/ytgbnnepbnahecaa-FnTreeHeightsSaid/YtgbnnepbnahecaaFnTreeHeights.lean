/-
  For every two codes the law FnTreeHeights returns true: impl.TreeHeights answers as the reference model does; the height of the node 0 is 0, the heights fit the runs of the tree, and for a net whose rises are those of heights they fit all runs. No condition: every two lists of bytes are taken.
-/
import Derived.Test.YtgbnnepbnahecaaTd
import Derived.Test.YtgbnnepbnahecaaNU
import Derived.Test.YtgbnnepbnahecaaDNi
import Derived.Test.YtgbnnepbnahecaaCode
namespace Go.Proofs.Ytgbnnepbnahecaa.fnTreeHeights
open Go.ChangeShapes Go.WideShapes Go.ChangeAt Go.RowKit
set_option linter.unusedVariables false

theorem sameInts_n {n : Nat} {zs : List Int} (hn : zs.length = n) (p q : Option Addr) (c d : Nat) (w : World) (hp : Ints w p zs) (hq : Ints w q zs) (hl : n ≤ 4000000000000000000) :
    Calls Try.prog 22 #[.slice p n c, .slice q n d] w fun e w' => e = .returned (.bool true) ∧ Below w.heap.size w w' := by subst hn; exact sameInts_is p q c d zs w hp hq hl
theorem runs_low {w w' : World} {P o n : Nat} {rs : List Rn} (h : Runs w (some ⟨P, o, none⟩) rs) (hP : P < n) (hb : Below n w w') : Runs w' (some ⟨P, o, none⟩) rs := h.keep (fun B o e => by cases e; exact hb.block _ hP) hb.size
theorem ints_low {w w' : World} {P o n : Nat} {zs : List Int} (h : Ints w (some ⟨P, o, none⟩) zs) (hP : P < n) (hb : Below n w w') : Ints w' (some ⟨P, o, none⟩) zs := h.keep (fun B o e => by cases e; exact hb.block _ hP) hb.size
section
variable {N : Nat} {rs : List Rn} {T hs : List Int}
theorem low_at (hl : Low hs) (x : Int) : 0 ≤ htAt hs x ∧ htAt hs x < 50 := by
  unfold htAt
  cases h : hs[x.toNat]? with
  | none => simp
  | some z => exact hl _ _ h
theorem fit_ok (hn : nOk N rs = true) (hl : Low hs) : nOk N (rs.map (fitOne hs)) = true := by
  obtain ⟨h1, h2, h3, h4⟩ := nOk_true hn
  refine nOk_of h1 h2 (by simpa using h3) (fun i r hi => ?_)
  rw [List.getElem?_map] at hi
  obtain ⟨x, hx, rfl⟩ := Option.map_eq_some_iff.1 hi
  obtain ⟨a1, a2, a3, a4, a5, a6, a7, a8, a9⟩ := rOk_true (h4 i x hx)
  have b1 := low_at hl x.t
  have b2 := low_at hl x.f
  exact rOk_of a1 a2 a3 a4 a5 (by simp [fitOne]; omega) (by simp [fitOne]; omega) a8 a9
theorem fit_sub (ha : Asc rs.length T) : sub (rs.map (fitOne hs)) T = (sub rs T).map (fitOne hs) := by
  unfold sub
  rw [List.map_map]
  refine List.map_congr_left (fun z hz => ?_)
  obtain ⟨a, b⟩ := ha.rng z hz
  obtain ⟨r, hr⟩ : ∃ r, rs[z.toNat]? = some r := ⟨_, runOf_at a b⟩
  unfold runOf
  simp [hr]
theorem fit_same {us : List Rn} {i j : Int} (h : Same us i j) : Same (us.map (fitOne hs)) i j := fun g hg => h g (fun r hr => hg (fitOne hs r) (List.mem_map.2 ⟨r, hr, rfl⟩))
theorem fit_tree (h : IsTree N rs T) (hl : Low hs) : IsTree N (rs.map (fitOne hs)) T := by
  have hg := fit_ok (N := N) h.ok hl
  have ha : Asc (rs.map (fitOne hs)).length T := by simpa using h.asc
  refine ⟨hg, h.len, ha, whole_of (ha.sub_ok hg (by have := h.len; have := (nOk_true h.ok).2.1; omega)) (fun i hi => ?_)⟩
  rw [fit_sub h.asc]
  exact fit_same (whole_same h.whole hi)
theorem ht_fits {us : List Rn} {L : List Int} (hN : 0 < N) (hN6 : N ≤ 6) (hw : nWhole N us = true) (h : IsHt N us L) {vs : List Rn} (hv : nOk N vs = true) (hf : ∀ r ∈ vs, htAt L r.t - htAt L r.f = r.s) : nFits N vs L = true := by
  have hn := (whole_iff.1 hw).1
  have hb := ht_low hN hN6 (nOk_ends hn) (fun i hi => whole_same hw hi) h (fun r hr => by
    obtain ⟨i, hi⟩ := List.getElem?_of_mem hr
    obtain ⟨-, -, -, -, -, a, b, -⟩ := rOk_true ((nOk_true hn).2.2.2 i r hi)
    exact ⟨a, b⟩)
  refine nFits_of hv (htOk_of (by have := h.len; omega) (fun i z _ hz => ?_)) (fun i r hi hr => ?_)
  · have := hb i z hz; unfold hOk; simp; omega
  · have := hf r (List.mem_of_getElem? hr); unfold fitR; simpa using this
end

theorem cell_over {w w' : World} {ob : Obj} {g P i : Nat} {v : Value} (h : w.cell? ⟨P, i, none⟩ = some v) (hP : P < w.heap.size) (hg : (w.alloc ob).grownBy w' (some g)) (hne : P ≠ g) : w'.cell? ⟨P, i, none⟩ = some v :=
  (World.cell?_of_block (a := ⟨P, i, none⟩) (hg.block P (by simp; omega) (by simpa using hne))).trans ((World.cell?_of_block (a := ⟨P, i, none⟩) (Deep.blk_alloc_lt _ _ _ hP)).trans h)
set_option maxHeartbeats 4000000 in
set_option maxRecDepth 100000 in
theorem walk (len cap : Nat) (p : Option Addr) (len2 cap2 : Nat) (p2 : Option Addr) (w : World) (hl : len ≤ 1048576) (hl2 : len2 ≤ 1048576) (h : Hid (Code' w (.slice p len cap))) (h2 : Hid (Code' w (.slice p2 len2 cap2))) :
    Calls Try.prog 7 #[.slice p len cap, .slice p2 len2 cap2] w fun e w' => e = .returned (.bool true) ∧ Below w.heap.size w w' := by
  have hl' : ¬ (1048576 : Int) < (len : Int) := by omega
  have hl2' : ¬ (1048576 : Int) < (len2 : Int) := by omega
  clear h2
  go_enter Try.func7, Try.ntmps7
  go_upto_region 4 with (go_at_call 29; (with_reducible refine (drawTreeHeights_is _ _ h).mono ?_); rintro e wd ⟨N, m, k, rs, T, P, Q, ⟨c, d, rfl⟩, ⟨hmm, hkk, ⟨hN2, hN6⟩, hm8, hk8⟩, hR, hI, hb_wd⟩; have hs_wd := hb_wd.size; have HR := Lib.hid hR; have HI := Lib.hid hI; have HM := Lib.hid (And.intro hmm hkk); clear hR hI hmm hkk)
  clear h
  obtain ⟨b, hb⟩ : ∃ b, isT N rs T = b := ⟨_, rfl⟩
  cases b
  · have c1 := fun w h hh => Lib.hid (iTreeHeights_no N m k (some ⟨P, 0, none⟩) (some ⟨Q, 0, none⟩) c d rs T w h hh HM.out.1 HM.out.2 (by omega) (by omega) hb)
    have c2 := fun w h hh => Lib.hid (sTreeHeights_no N m k (some ⟨P, 0, none⟩) (some ⟨Q, 0, none⟩) c d rs T w h hh HM.out.1 HM.out.2 (by omega) (by omega) hb)
    clear hb
    go_wp2_with (first | (go_at_call 30; (with_reducible refine ((c1 _ ?_ ?_).out).mono ?_); (focus (exact HR.out; done)); (focus (exact HI.out; done)); rintro e wi ⟨rfl, hb_wi⟩; have hs_wi := hb_wi.size) | (go_at_call 31; (with_reducible refine ((c2 _ ?_ ?_).out).mono ?_); (focus (exact HR.out.below hb_wi; done)); (focus (exact HI.out.below hb_wi; done)); rintro e ws ⟨⟨gs, rfl⟩, hb_ws⟩; have hs_ws := hb_ws.size) | (go_at_call 22; (with_reducible refine (sameInts_nil _ _ _ _ _).mono ?_); rintro e wt ⟨rfl, hb_wt⟩; have hs_wt := hb_wt.size; (try simp at hs_wt)))
    go_ret
    exact ⟨rfl, (by repeat (first | assumption | exact Below.refl _ _ | (refine below_chain ?_ (by assumption) (by first | omega | (simp <;> omega) | simp)) | (refine Below.alloc ?_ (by first | omega | (simp <;> omega) | simp) _) | (apply below_drewN) | (apply below_drew) | (refine Below.setCell ?_ (by first | omega | (simp <;> omega) | simp) _)))⟩
  · have htr := isT_true.1 hb
    have c1 := fun w h hh => Lib.hid (iTreeHeights_yes N m k (some ⟨P, 0, none⟩) (some ⟨Q, 0, none⟩) c d rs T w h hh HM.out.1 HM.out.2 htr)
    have c2 := fun w h hh => Lib.hid (sTreeHeights_yes N m k (some ⟨P, 0, none⟩) (some ⟨Q, 0, none⟩) c d rs T w h hh HM.out.1 HM.out.2 htr)
    have U : Hid (∀ L L', IsHt N (sub rs T) L → IsHt N (sub rs T) L' → L = L') := Lib.hid (fun L L' a b => a.unique (fun i hi => whole_same htr.whole hi) b)
    have hkN : k + 1 = N := by have := htr.len; have := HM.out.2; omega
    have HTR := Lib.hid htr
    clear hb htr
    go_upto_region 10 with (first | (go_at_call 30; (with_reducible refine ((c1 _ ?_ ?_).out).mono ?_); (focus (exact HR.out; done)); (focus (exact HI.out; done)); rintro e wi ⟨L, gi, rfl, hht, hgi, oi, hb_wi⟩; have hs_wi := hb_wi.size; have hli := oi.lt; have hLN := hht.len; have HT := Lib.hid hht; have OI := Lib.hid oi; clear oi hht) | (go_at_call 31; (with_reducible refine ((c2 _ ?_ ?_).out).mono ?_); (focus (exact HR.out.below hb_wi; done)); (focus (exact HI.out.below hb_wi; done)); rintro e ws ⟨L', gs, rfl, hht, hgs, os, hb_ws⟩; have hs_ws := hb_ws.size; (obtain rfl := U.out _ _ HT.out hht); have OS := Lib.hid os; clear os hht) | (go_at_call 22; (with_reducible refine (sameInts_n hLN _ _ _ _ _ ?_ ?_ (by omega)).mono ?_); (focus ((exact (OI.out.below hb_ws).ints); done)); (focus ((exact OS.out.ints); done)); rintro e wt ⟨rfl, hb_wt⟩; have hs_wt := hb_wt.size; (try simp at hs_wt)))
    have hmk : k ≤ m := by
      have h1 := HTR.out.asc
      obtain ⟨z, hz⟩ : ∃ z, T[k - 1]? = some z := ⟨_, List.getElem?_eq_getElem (by have := HM.out.2; omega)⟩
      have low : ∀ (i : Nat) (z : Int), T[i]? = some z → (i : Int) ≤ z := by
        intro i
        induction i with
        | zero => intro z hz; exact (h1.rng z (List.mem_of_getElem? hz)).1
        | succ i ih =>
          intro z hz
          have hi := (List.getElem?_eq_some_iff.1 hz).1
          have := ih _ (List.getElem?_eq_getElem (by omega))
          have := h1.get (List.getElem?_eq_getElem (by omega : i < T.length)) hz (by omega)
          omega
      have a := low _ _ hz
      have b := (h1.rng z (List.mem_of_getElem? hz)).2
      have := HM.out.1
      omega
    have hP : P < wt.heap.size := by
      obtain ⟨B, o, r, e, -, hB, -⟩ := HR.out.at (i := 0) (by have := HM.out.1; omega)
      cases e; omega
    have hQ : Q < wt.heap.size := by
      obtain ⟨B, o, r, e, -, hB, -⟩ := HI.out.at (i := 0) (by have := HM.out.2; omega)
      cases e; omega
    have hgi' : gi < wt.heap.size := by omega
    have hB0 : Below w.heap.size w (wt.alloc (.cells #[] 29)) := (by repeat (first | assumption | exact Below.refl _ _ | (refine below_chain ?_ (by assumption) (by first | omega | (simp <;> omega) | simp)) | (refine Below.alloc ?_ (by first | omega | (simp <;> omega) | simp) _) | (apply below_drewN) | (apply below_drew) | (refine Below.setCell ?_ (by first | omega | (simp <;> omega) | simp) _)))
    have hbt : Below wd.heap.size wd wt := hb_wi.trans ((hb_ws.trans (hb_wt.mono hs_ws)).mono hs_wi)
    refine gen_world (fun W => Own W wt.heap.size 29 4 0 0 [] ∧ (Runs W (some ⟨P, 0, none⟩) rs ∧ Ints W (some ⟨Q, 0, none⟩) T) ∧ Own W gi 3 1 N N L ∧ Below w.heap.size w W ∧ wt.heap.size < W.heap.size) ⟨Own.empty _ _ _, ⟨(HR.out.below hbt).alloc _, (HI.out.below hbt).alloc _⟩, ((OI.out.below hb_ws).below hb_wt).alloc _, hB0, by simp⟩ (fun w0 h0 => ?_)
    have H0 := Lib.hid h0
    have hs0 := h0.2.2.2.2
    have hs1 := h0.2.2.2.1.size
    clear c1 c2 HR HI OI OS hb_wd hb_wi hb_ws hb_wt hB0 hbt h0 hgi hgs hli
    go_loopw [12, 13] (fun x i wr => ∃ (j gx cx : Nat), j ≤ k ∧ i = .int .i64 j ∧ x = .slice (some ⟨gx, 0, none⟩) j cx ∧ wt.heap.size ≤ gx ∧ Own wr gx 29 4 j cx (flat (sub rs (T.take j))) ∧ Below wt.heap.size w0 wr) (fun _ i _ => k - (intOf i).toNat)
    case atStart => exact ⟨0, _, _, Nat.zero_le _, rfl, rfl, Nat.le_refl _, by simpa [sub, flat] using H0.out.1, Below.refl _ _⟩
    case round =>
      obtain ⟨j, gx, cx, hj, rfl, rfl, hgx, hox, hbr⟩ := hrel
      have hlx := hox.lt
      have hbs := hbr.size
      have hrr := runs_low H0.out.2.1.1 hP hbr
      have hir := ints_low H0.out.2.1.2 hQ hbr
      have HO := Lib.hid (And.intro hox hbr)
      have HRr := Lib.hid (And.intro hrr hir)
      by_cases hlt : j < k
      · obtain ⟨B, o, z, e, hz, hB, y0⟩ := hir.at (i := j) (by have := HM.out.2; omega)
        cases e
        obtain ⟨z0, z1⟩ := HTR.out.asc.rng z (List.mem_of_getElem? hz)
        obtain ⟨u, rfl⟩ : ∃ u : Nat, z = (u : Int) := ⟨z.toNat, by omega⟩
        have hum : u < m := by have := HM.out.1; omega
        obtain ⟨D, o', r, e, hr, hD, x0, x1, x2, x3⟩ := hrr.at (i := u) (by have := HM.out.1; omega)
        cases e
        simp only [Nat.zero_add] at y0 x0 x1 x2 x3
        have hsn : sub rs (T.take (j + 1)) = sub rs (T.take j) ++ [r] := by rw [take_succ_of hz]; exact sub_snoc rs _ u hr
        have HJ := Lib.hid hsn
        clear hz hr hrr hir hox hbr z0 z1 hsn
        go_wp2_with (at_builtin; refine wp_append _ rfl _ _ 23 rfl 29 _ 4 32 Try.underlying23 info_run rfl (by decide) (by decide) gx j cx _ rfl (HO.out.1.alloc _) _ _ _ _ rfl rfl (four_cells _ _ _ _ _ _) (by omega) ?_; intro gx' cx' w1 hown hgr hloc hsz; have HN := Lib.hid (And.intro hown (And.intro hgr hloc)); clear hown hgr hloc)
        go_roundw
        case rel =>
          obtain ⟨hown, hgr, hloc⟩ := HN.out
          have hgx' : wt.heap.size ≤ gx' := by
            rcases hloc with rfl | rfl
            · exact hgx
            · simp; omega
          exact ⟨j + 1, gx', cx', by omega, by go_num, rfl, hgx', by rw [HJ.out, flat_append]; simpa [flat] using hown, below_gr (HO.out.2.alloc (by omega) _) hgr hgx (by simp; omega)⟩
        case measure => simp [intOf]; omega
      · have e : j = k := by omega
        subst e
        have hTt : T.take j = T := List.take_of_length_le (by have := HM.out.2; omega)
        rw [hTt] at hox
        have hsl : (sub rs T).length = j := by rw [sub_len]; exact HM.out.2
        have htr := HTR.out
        have hok := htr.ok
        have hog : Own wr gi 3 1 N N L := H0.out.2.2.1.block (hbr.block _ hgi')
        have k0 := fun w => Lib.hid (some_is N len2 w (by omega) (by omega))
        have k1 := fun w hs q d h hh hN hlow => Lib.hid (fit_is P 0 m q d N rs hs (c := c) w h hh HM.out.1 (by omega) hok hN hlow)
        have k2 := fun w hs q e q' h hh hlow => Lib.hid (iTreeHeights_yes N m j q q' e d (rs.map (fitOne hs)) T w h hh (by simpa using HM.out.1) HM.out.2 (fit_tree htr hlow))
        have k3 := fun w q c p h hh => Lib.hid (iFits_at (N := N) (q := q) (c := c) (p := p) (d := N) (b := true) w hsl HT.out.len h hh (by omega) hN6 (ht_fits (by omega) hN6 htr.whole HT.out (whole_iff.1 htr.whole).1 HT.out.fit))
        have HX := Lib.hid (And.intro hox.runs hog)
        have hB : Below w.heap.size w wr := H0.out.2.2.2.1.trans (hbr.mono (by omega))
        have hsB := hB.size
        have l0 : htAt L 0 = 0 := HT.out.zero
        obtain ⟨y, hy⟩ : ∃ y, L[0]? = some y := ⟨_, List.getElem?_eq_getElem (by omega)⟩
        have hy0 : y = 0 := by unfold htAt at l0; simpa [hy] using l0
        subst hy0
        have HL := Lib.hid hy
        clear hox hbr HO hrr hir hsl htr hok hTt hog l0 hy
        go_upto_region 14 with (first | (go_at_call 33; (with_reducible refine ((k0 _).out).mono ?_); rintro e wx ⟨gs', cs', hs, rfl, hsN, hlow, hgs', os', hb_wx⟩; have hs_wx := hb_wx.size; have HS := Lib.hid (And.intro hsN (And.intro hlow os')); clear hsN hlow os') | (go_at_call 32; (with_reducible refine ((k1 _ hs _ _ ?_ ?_ ?_ ?_).out).mono ?_); (focus (exact HRr.out.1.below hb_wx; done)); (focus (exact HS.out.2.2.ints; done)); (focus (exact HS.out.1; done)); (focus (exact HS.out.2.1; done)); rintro e wf ⟨gf, cf, rfl, hgf, off, hb_wf⟩; have hs_wf := hb_wf.size; have HF := Lib.hid off; clear off))
        have hlow := HS.out.2.1
        have HFT := Lib.hid (fit_tree HTR.out hlow)
        have hfl : (rs.map (fitOne hs)).length = m := by simpa using HM.out.1
        have k4 := fun w (L2 : List Int) q c p h hh (hht : IsHt N (sub (rs.map (fitOne hs)) T) L2) => Lib.hid (iFits_at (N := N) (q := q) (c := c) (p := p) (d := N) (b := true) w hfl hht.len h hh (by omega) hN6 (ht_fits (by omega) hN6 HFT.out.whole hht HFT.out.ok (ht_all (fun i hi => whole_same HFT.out.whole hi) (nOk_ends HFT.out.ok) (HFT.out.asc.mem_sub (Nat.le_refl _)) hht (fun r hr => by
          obtain ⟨r', hr', rfl⟩ := List.mem_map.1 hr
          show htAt hs (fitOne hs r').t - htAt hs (fitOne hs r').f = (fitOne hs r').s
          rfl))))
        have k2' := fun w q e q' h hh => k2 w hs q e q' h hh hlow
        clear k0 k1 k2 hfl hlow
        go_wp2_with (first | (go_at_call 30; (with_reducible refine ((k2' _ _ _ _ ?_ ?_).out).mono ?_); (focus (exact HF.out.runs; done)); (focus (exact HRr.out.2.below (hb_wx.trans (hb_wf.mono hs_wx)); done)); rintro e wh ⟨L2, gh, rfl, hht, hgh, oh, hb_wh⟩; have hs_wh := hb_wh.size; have HH := Lib.hid (And.intro oh hht); (have x0 := ((((HX.out.2.below hb_wx).below hb_wf).below hb_wh).cells HL.out)); have hgw : gi < wh.heap.size := (by omega); clear oh hht) | (go_at_call 34; (with_reducible refine ((k3 _ _ _ _ ?_ ?_).out).mono ?_); (focus ((exact ((HX.out.1.below hb_wx).below hb_wf).below hb_wh); done)); (focus ((exact (((HX.out.2.below hb_wx).below hb_wf).below hb_wh).ints); done)); rintro e wy ⟨rfl, hb_wy⟩; have hs_wy := hb_wy.size; (try simp at hs_wy)) | (go_at_call 34; (with_reducible refine ((k4 _ L2 _ _ _ ?_ ?_ HH.out.2).out).mono ?_); (focus ((exact (HF.out.runs.below hb_wh).below hb_wy); done)); (focus ((exact HH.out.1.ints.below hb_wy); done)); rintro e wz ⟨rfl, hb_wz⟩; have hs_wz := hb_wz.size; (try simp at hs_wz)))
        go_ret
        exact ⟨rfl, (by repeat (first | assumption | exact Below.refl _ _ | (refine below_chain ?_ (by assumption) (by first | omega | (simp <;> omega) | simp)) | (refine Below.alloc ?_ (by first | omega | (simp <;> omega) | simp) _) | (apply below_drewN) | (apply below_drew) | (refine Below.setCell ?_ (by first | omega | (simp <;> omega) | simp) _)))⟩
theorem walk_long (len cap : Nat) (p : Option Addr) (len1 cap1 : Nat) (p1 : Option Addr) (w : World) (hl : 1048576 < len ∨ 1048576 < len1) :
    Calls Try.prog 7 #[.slice p len cap, .slice p1 len1 cap1] w fun e w' => e = .returned (.bool true) ∧ Below w.heap.size w w' := by
  by_cases h0 : (1048576 : Int) < (len : Int)
  · go_enter Try.func7, Try.ntmps7
    go_wp2
    go_ret
    exact ⟨rfl, Below.refl _ _⟩
  · have hl' : (1048576 : Int) < (len1 : Int) := by omega
    clear hl
    go_enter Try.func7, Try.ntmps7
    go_wp2
    go_ret
    exact ⟨rfl, Below.refl _ _⟩

set_option maxRecDepth 100000 in
theorem lifted (os : Os) (started : os.Started) (H : Type) (enc : TypeId × Value → H) :
    ReturnsInHanded {} Try.checked os 7 .any (Rows.fnTreeHeightsSpec.pre6 enc Try.prog Try.f7 Rows.fnTreeHeightsRow.domain false) (Rows.fnTreeHeightsSpec.post enc Try.prog Try.f7 false true false false) := by
  refine returnsInHanded_of_change (C := Try.checked) own started (by kernel_rfl) Try.func7
    (ChangeSpec.witness6 (enc := enc) (C := Try.checked) false ⟨#[], #[.slice none 0 0, .slice none 0 0], []⟩ 8 (by kernel_rfl) (by kernel_rfl) (by kernel_rfl) (by kernel_rfl)) ?_
  intro W base args ds gs before hval0 hW hcnd _
  have hval : ∀ (j : Nat) t v, Try.f7.params[j]? = some t → args[j]? = some v → Value.okWide Try.prog W .any base t v := hval0
  have hW' := hW
  obtain ⟨p, q, hA0, hV, rfl, hfz, hnd⟩ := hW
  have hA : DataW.TrodAll enc Try.prog W 0 (fun _ => true) true Try.f7.params.toList args.toList ds p := hA0
  rw [Try.params7] at hA hval
  obtain ⟨v0, vs0, d0, ds0, p0, q0, hargs, rfl, rfl, h0, r0⟩ := trodAll_cons hA
  obtain ⟨v1, vs1, d1, ds1, p1, q1, rfl, rfl, rfl, h1, r1⟩ := trodAll_cons r0
  obtain ⟨rfl, rfl, rfl⟩ := trodAll_nil r1
  obtain rfl : args = #[v0, v1] := by cases args; simp_all
  obtain ⟨rfl, rfl⟩ := trodVars_none hV
  obtain ⟨a0, len0, cap0, rfl⟩ := okWide_slice Try.underlying22 (hval 0 22 v0 rfl rfl)
  have k0 := h0
  have lt0 : ∀ x ∈ p0, x.block < W.heap.size := by obtain ⟨m, hm⟩ := k0; exact DataW.trod_lt m _ _ _ hm
  obtain ⟨z0, w0⟩ : ∃ zs, IsRow .u8 W a0 len0 cap0 zs := by
    obtain ⟨fuel, hf⟩ := h0
    rcases open_ints Try.underlying22 Try.underlying5 (by kernel_rfl) hf with ⟨hcs, _⟩ | ⟨x, l, c, zs, hcs, _, hl, hm, hz, _, hcell, hwz⟩
    · simp [Value.cells] at hcs
      obtain ⟨rfl, rfl, rfl⟩ := hcs
      exact ⟨[], .inl ⟨rfl, rfl, rfl, rfl⟩⟩
    · simp [Value.cells] at hcs
      obtain ⟨rfl, rfl, rfl⟩ := hcs
      exact ⟨zs, .inr ⟨_, rfl, hl, hm, by simpa using hz, hcell, hwz⟩⟩
  obtain ⟨a1, len1, cap1, rfl⟩ := okWide_slice Try.underlying22 (hval 1 22 v1 rfl rfl)
  have k1 := h1
  have lt1 : ∀ x ∈ p1, x.block < W.heap.size := by obtain ⟨m, hm⟩ := k1; exact DataW.trod_lt m _ _ _ hm
  obtain ⟨z1, w1⟩ : ∃ zs, IsRow .u8 W a1 len1 cap1 zs := by
    obtain ⟨fuel, hf⟩ := h1
    rcases open_ints Try.underlying22 Try.underlying5 (by kernel_rfl) hf with ⟨hcs, _⟩ | ⟨x, l, c, zs, hcs, _, hl, hm, hz, _, hcell, hwz⟩
    · simp [Value.cells] at hcs
      obtain ⟨rfl, rfl, rfl⟩ := hcs
      exact ⟨[], .inl ⟨rfl, rfl, rfl, rfl⟩⟩
    · simp [Value.cells] at hcs
      obtain ⟨rfl, rfl, rfl⟩ := hcs
      exact ⟨zs, .inr ⟨_, rfl, hl, hm, by simpa using hz, hcell, hwz⟩⟩
  clear hA0 hval0
  have hw : Calls Try.prog 7 #[.slice a0 len0 cap0, .slice a1 len1 cap1] W fun e w' => e = .returned (.bool true) ∧ Below W.heap.size W w' := by
    by_cases hl : len0 ≤ 1048576
    · by_cases hm : len1 ≤ 1048576
      · exact walk len0 cap0 a0 len1 cap1 a1 W hl hm (Lib.hid (code_of_row w0 hl)) (Lib.hid (code_of_row w1 hm))
      · exact walk_long len0 cap0 a0 len1 cap1 a1 W (by omega)
    · exact walk_long len0 cap0 a0 len1 cap1 a1 W (by omega)
  refine hw.mono fun e W' ⟨he, bel⟩ => ?_
  subst he
  exact ⟨_, rfl, _, _, _, [], _, [], hW', trodAll_mk1 (shut_bool Try.underlying4 _), (trodAll_cons_mk (Below.trod laidOut (by kernel_rfl) (of_decide_eq_true (by kernel_rfl)) k0 bel lt0) (trodAll_cons_mk (Below.trod laidOut (by kernel_rfl) (of_decide_eq_true (by kernel_rfl)) k1 bel lt1) trodAll_mk0)), rfl, bel.frame _, fun h => by cases h⟩

theorem over : Rows.fnTreeHeightsRow.holds Try.pinned (OpenSpec.ofChange Rows.fnTreeHeightsSpec) :=
  OpenClaim.holds_of_wide 7 Try.f7 rfl rfl rfl rfl rfl rfl rfl ⟨rfl, rfl, rfl, rfl, rfl⟩ rfl rfl rfl rfl rfl (by kernel_rfl) Try.func7 (by kernel_rfl)
    (of_decide_eq_true (by kernel_rfl)) (by unfold Func.isWrapper; first | (rw [if_pos (by decide +kernel)]; kernel_rfl) | (rw [if_neg (by decide +kernel)]; exact ⟨rfl, rfl⟩))
    (fun os started H enc _ => lifted os started H enc)

theorem proved : Rows.FnTreeHeightsSaid := over
end Go.Proofs.Ytgbnnepbnahecaa.fnTreeHeights

