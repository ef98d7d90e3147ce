/-
  For every two codes the law FnTree returns true: impl.TreeIs answers as the reference model does, and a tree has no loop, is whole, and is not without any one of its runs. No condition: every two lists of bytes are taken.
-/
import Derived.Test.YtgbnnepbnahecaaTb
import Derived.Test.YtgbnnepbnahecaaNU
import Derived.Test.YtgbnnepbnahecaaDNi
import Derived.Test.YtgbnnepbnahecaaCode
namespace Go.Proofs.Ytgbnnepbnahecaa.fnTree
open Go.ChangeShapes Go.WideShapes Go.ChangeAt Go.RowKit
set_option linter.unusedVariables false

theorem erase_same {α : Type} {l : List α} {s j : Nat} {z : α} (hz : l[j]? = some z) (h : j = s) : (l.take (j + 1)).eraseIdx s = (l.take j).eraseIdx s := by
  have hj := (List.getElem?_eq_some_iff.1 hz).1
  rw [take_succ_of hz, List.eraseIdx_append_of_length_le (by simp; omega)]
  have e : s - (l.take j).length = 0 := by simp; omega
  rw [e, List.eraseIdx_of_length_le (l := l.take j) (by simp; omega)]
  simp
theorem erase_more {α : Type} {l : List α} {s j : Nat} {z : α} (hz : l[j]? = some z) (h : j ≠ s) : (l.take (j + 1)).eraseIdx s = (l.take j).eraseIdx s ++ [z] := by
  have hj := (List.getElem?_eq_some_iff.1 hz).1
  rw [take_succ_of hz]
  by_cases hs : s < j
  · rw [List.eraseIdx_append_of_lt_length (by simp; omega)]
  · rw [List.eraseIdx_append_of_length_le (by simp; omega), List.eraseIdx_of_length_le (l := l.take j) (by simp; omega)]
    rw [List.eraseIdx_of_length_le (by simp; omega)]
theorem erase_less {N : Nat} {rs : List Rn} {T : List Int} {s : Nat} (h : IsTree N rs T) (hs : s < T.length) : nWhole N (sub rs (T.eraseIdx s)) = false :=
  tree_less h (by rw [List.length_eraseIdx, if_pos hs]; omega) (fun z hz => List.mem_of_mem_eraseIdx hz)

theorem runs_low {w w' : World} {P o n : Nat} {rs : List Rn} (h : Runs w (some ⟨P, o, none⟩) rs) (hP : P < n) (hb : Below n w w') : Runs w' (some ⟨P, o, none⟩) rs := h.keep (fun B o e => by cases e; exact hb.block _ hP) hb.size
theorem ints_low {w w' : World} {P o n : Nat} {zs : List Int} (h : Ints w (some ⟨P, o, none⟩) zs) (hP : P < n) (hb : Below n w w') : Ints w' (some ⟨P, o, none⟩) zs := h.keep (fun B o e => by cases e; exact hb.block _ hP) hb.size

theorem cell_over {w w' : World} {ob : Obj} {g P i : Nat} {v : Value} (h : w.cell? ⟨P, i, none⟩ = some v) (hP : P < w.heap.size) (hg : (w.alloc ob).grownBy w' (some g)) (hne : P ≠ g) : w'.cell? ⟨P, i, none⟩ = some v :=
  (World.cell?_of_block (a := ⟨P, i, none⟩) (hg.block P (by simp; omega) (by simpa using hne))).trans ((World.cell?_of_block (a := ⟨P, i, none⟩) (Deep.blk_alloc_lt _ _ _ hP)).trans h)

set_option maxHeartbeats 8000000 in
set_option maxRecDepth 100000 in
theorem walk (len cap : Nat) (p : Option Addr) (len2 cap2 : Nat) (p2 : Option Addr) (w : World) (hl : len ≤ 1048576) (hl2 : len2 ≤ 1048576) (h : Hid (Code' w (.slice p len cap))) (h2 : Hid (Code' w (.slice p2 len2 cap2))) :
    Calls Try.prog 3 #[.slice p len cap, .slice p2 len2 cap2] w fun e w' => e = .returned (.bool true) ∧ Below w.heap.size w w' := by
  have hl' : ¬ (1048576 : Int) < (len : Int) := by omega
  have hl2' : ¬ (1048576 : Int) < (len2 : Int) := by omega
  clear h2
  go_enter Try.func3, Try.ntmps3
  go_upto_region 4 with (go_at_call 14; (with_reducible refine (drawTree_is _ _ h).mono ?_); rintro e wd ⟨N, m, k, rs, T, P, Q, ⟨c, d, rfl⟩, ⟨hmm, hkk, ⟨hN2, hN6⟩, hm8, hk8⟩, hR, hI, hb_wd⟩; have hs_wd := hb_wd.size; have HR := Lib.hid hR; have HI := Lib.hid hI; have HM := Lib.hid (And.intro hmm hkk); clear hR hI hmm hkk)
  clear h
  obtain ⟨b, hb⟩ : ∃ b, isT N rs T = b := ⟨_, rfl⟩
  have c1 := fun w h hh => Lib.hid (iTreeIs_at N m k (some ⟨P, 0, none⟩) (some ⟨Q, 0, none⟩) c d rs T b w h hh HM.out.1 HM.out.2 (by omega) (by omega) hb)
  have c2 := fun w h hh => Lib.hid (sTreeIs_at N m k (some ⟨P, 0, none⟩) (some ⟨Q, 0, none⟩) c d rs T b w h hh HM.out.1 HM.out.2 (by omega) (by omega) hb)
  have HB := Lib.hid hb
  clear hb
  cases b
  · go_wp2_with (first | (go_at_call 15; (with_reducible refine ((c1 _ ?_ ?_).out).mono ?_); (focus ((exact HR.out); done)); (focus ((exact HI.out); done)); rintro e wi ⟨rfl, hb_wi⟩; have hs_wi := hb_wi.size; (try simp at hs_wi)) | (go_at_call 16; (with_reducible refine ((c2 _ ?_ ?_).out).mono ?_); (focus ((exact HR.out.below (by repeat (first | assumption | exact Below.refl _ _ | (refine below_chain ?_ (by assumption) (by first | omega | (simp <;> omega) | simp)) | (refine Below.alloc ?_ (by first | omega | (simp <;> omega) | simp) _) | (apply below_drewN) | (apply below_drew) | (refine Below.setCell ?_ (by first | omega | (simp <;> omega) | simp) _)))); done)); (focus ((exact HI.out.below (by repeat (first | assumption | exact Below.refl _ _ | (refine below_chain ?_ (by assumption) (by first | omega | (simp <;> omega) | simp)) | (refine Below.alloc ?_ (by first | omega | (simp <;> omega) | simp) _) | (apply below_drewN) | (apply below_drew) | (refine Below.setCell ?_ (by first | omega | (simp <;> omega) | simp) _)))); done)); rintro e ws ⟨rfl, hb_ws⟩; have hs_ws := hb_ws.size; (try simp at hs_ws)))
    go_ret
    exact ⟨rfl, (by repeat (first | assumption | exact Below.refl _ _ | (refine below_chain ?_ (by assumption) (by first | omega | (simp <;> omega) | simp)) | (refine Below.alloc ?_ (by first | omega | (simp <;> omega) | simp) _) | (apply below_drewN) | (apply below_drew) | (refine Below.setCell ?_ (by first | omega | (simp <;> omega) | simp) _)))⟩
  · have htr := isT_true.1 HB.out
    have hkN : k + 1 = N := by have := htr.len; have := HM.out.2; omega
    have hk0 : 0 < k := by omega
    have hk0' : ¬ (k : Int) = 0 := by omega
    go_upto_region 10 with (first | (go_at_call 15; (with_reducible refine ((c1 _ ?_ ?_).out).mono ?_); (focus ((exact HR.out); done)); (focus ((exact HI.out); done)); rintro e wi ⟨rfl, hb_wi⟩; have hs_wi := hb_wi.size; (try simp at hs_wi)) | (go_at_call 16; (with_reducible refine ((c2 _ ?_ ?_).out).mono ?_); (focus ((exact HR.out.below (by repeat (first | assumption | exact Below.refl _ _ | (refine below_chain ?_ (by assumption) (by first | omega | (simp <;> omega) | simp)) | (refine Below.alloc ?_ (by first | omega | (simp <;> omega) | simp) _) | (apply below_drewN) | (apply below_drew) | (refine Below.setCell ?_ (by first | omega | (simp <;> omega) | simp) _)))); done)); (focus ((exact HI.out.below (by repeat (first | assumption | exact Below.refl _ _ | (refine below_chain ?_ (by assumption) (by first | omega | (simp <;> omega) | simp)) | (refine Below.alloc ?_ (by first | omega | (simp <;> omega) | simp) _) | (apply below_drewN) | (apply below_drew) | (refine Below.setCell ?_ (by first | omega | (simp <;> omega) | simp) _)))); done)); rintro e ws ⟨rfl, hb_ws⟩; have hs_ws := hb_ws.size; (try simp at hs_ws)))
    have HB0 : Hid (Below w.heap.size w ((ws.alloc (.cells #[] 29)).alloc (.cells #[] 29))) := Lib.hid (by repeat (first | assumption | exact Below.refl _ _ | (refine below_chain ?_ (by assumption) (by first | omega | (simp <;> omega) | simp)) | (refine Below.alloc ?_ (by first | omega | (simp <;> omega) | simp) _) | (apply below_drewN) | (apply below_drew) | (refine Below.setCell ?_ (by first | omega | (simp <;> omega) | simp) _)))
    have HR1 := Lib.hid (((HR.out.below (w' := ws) (hb_wi.trans (hb_ws.mono hs_wi))).alloc (.cells #[] 29)).alloc (.cells #[] 29))
    have HI1 := Lib.hid (((HI.out.below (w' := ws) (hb_wi.trans (hb_ws.mono hs_wi))).alloc (.cells #[] 29)).alloc (.cells #[] 29))
    have HE1 := Lib.hid ((Own.empty ws 29 4).alloc (.cells #[] 29))
    have HE2 := Lib.hid (Own.empty (ws.alloc (.cells #[] 29)) 29 4)
    have hmk : k ≤ m := by
      have h1 := htr.asc
      obtain ⟨z, hz⟩ : ∃ z, T[k - 1]? = some z := ⟨_, List.getElem?_eq_getElem (by have := HM.out.2; omega)⟩
      have low : ∀ (i : Nat) (z : Int), T[i]? = some z → (i : Int) ≤ z := by
        intro i
        induction i with
        | zero => intro z hz; exact (h1.rng z (List.mem_of_getElem? hz)).1
        | succ i ih =>
          intro z hz
          have hi := (List.getElem?_eq_some_iff.1 hz).1
          have := ih _ (List.getElem?_eq_getElem (by omega))
          have := h1.get (List.getElem?_eq_getElem (by omega : i < T.length)) hz (by omega)
          omega
      have a := low _ _ hz
      have b := (h1.rng z (List.mem_of_getElem? hz)).2
      have := HM.out.1
      omega
    have hP : P < ws.heap.size := by
      obtain ⟨B, o, r, e, -, hB, -⟩ := HR.out.at (i := 0) (by have := HM.out.1; omega)
      cases e; omega
    have hQ : Q < ws.heap.size := by
      obtain ⟨B, o, r, e, -, hB, -⟩ := HI.out.at (i := 0) (by have := HM.out.2; omega)
      cases e; omega
    clear c1 c2 HR HI hb_wd hb_wi hb_ws
    obtain ⟨s, hsd⟩ : ∃ s : Nat, s = len2 % k := ⟨_, rfl⟩
    have hsk : s < k := by rw [hsd]; exact Nat.mod_lt _ (by omega)
    have hse : (len2 : Int) % (k : Int) = (s : Int) := by rw [hsd]; rfl
    clear hsd
    go_upto_region 11 with fail
    rw [hse]
    clear hse
    refine gen_world (fun W => (Own W ws.heap.size 29 4 0 0 [] ∧ Own W (ws.heap.size + 1) 29 4 0 0 []) ∧ (Runs W (some ⟨P, 0, none⟩) rs ∧ Ints W (some ⟨Q, 0, none⟩) T) ∧ Below w.heap.size w W ∧ ws.heap.size + 1 < W.heap.size) ⟨⟨HE1.out, by simpa using HE2.out⟩, ⟨HR1.out, HI1.out⟩, HB0.out, by simp⟩ (fun w0 h0 => ?_)
    clear HB0 HR1 HI1 HE1 HE2
    have H0 := Lib.hid h0
    have hs0 := h0.2.2.2
    have hs1 := h0.2.2.1.size
    clear h0
    go_wp2_with fail
    go_loopw [10, 11, 13] (fun x y i wr => ∃ (j gx cx gy cy ny : Nat), j ≤ k ∧ i = .int .i64 j ∧ x = .slice (some ⟨gx, 0, none⟩) j cx ∧ y = .slice (some ⟨gy, 0, none⟩) ny cy ∧ ((T.take j).eraseIdx s).length = ny ∧ (ws.heap.size ≤ gx ∧ ws.heap.size ≤ gy ∧ gx ≠ gy) ∧ Own wr gx 29 4 j cx (flat (sub rs (T.take j))) ∧ Own wr gy 29 4 ny cy (flat (sub rs ((T.take j).eraseIdx s))) ∧ Below ws.heap.size w0 wr) (fun _ _ i _ => k - (intOf i).toNat)
    case atStart => exact ⟨0, _, _, _, _, 0, Nat.zero_le _, rfl, rfl, rfl, by simp, ⟨Nat.le_refl _, by omega, by omega⟩, by simpa [sub, flat] using H0.out.1.1, by simpa [sub, flat] using H0.out.1.2, Below.refl _ _⟩
    case round =>
      obtain ⟨j, gx, cx, gy, cy, ny, hj, rfl, rfl, rfl, hny, ⟨hgx, hgy, hxy⟩, hox, hoy, hbr⟩ := hrel
      have hlx := hox.lt
      have hly := hoy.lt
      have hbs := hbr.size
      have hrr := runs_low H0.out.2.1.1 hP hbr
      have hir := ints_low H0.out.2.1.2 hQ hbr
      have hny8 : ny ≤ 8 := by rw [← hny]; have := List.length_eraseIdx_le (T.take j) s; simp at this; omega
      have HO := Lib.hid (And.intro hox (And.intro hoy (And.intro hbr hny)))
      have HRr := Lib.hid (And.intro hrr hir)
      by_cases hlt : j < k
      · obtain ⟨B, o, z, e, hz, hB, y0⟩ := hir.at (i := j) (by have := HM.out.2; omega)
        cases e
        obtain ⟨z0, z1⟩ := htr.asc.rng z (List.mem_of_getElem? hz)
        obtain ⟨u, rfl⟩ : ∃ u : Nat, z = (u : Int) := ⟨z.toNat, by omega⟩
        have hum : u < m := by have := HM.out.1; omega
        obtain ⟨D, o', r, e, hr, hD, x0, x1, x2, x3⟩ := hrr.at (i := u) (by have := HM.out.1; omega)
        cases e
        simp only [Nat.zero_add] at y0 x0 x1 x2 x3
        have hsn : sub rs (T.take (j + 1)) = sub rs (T.take j) ++ [r] := by rw [take_succ_of hz]; exact sub_snoc rs _ u hr
        have HJ := Lib.hid (And.intro hz (And.intro hr hsn))
        have hPw : P < wr.heap.size := by omega
        have hQw : Q < wr.heap.size := by omega
        have hPx : P ≠ gx := by omega
        have hQx : Q ≠ gx := by omega
        have hyx : gy ≠ gx := fun e => hxy e.symm
        clear hz hr hrr hir hox hoy hbr z0 z1 hny hsn
        by_cases hjs : j = s
        · subst hjs
          go_wp2_with (at_builtin; refine wp_append _ rfl _ _ 23 rfl 29 _ 4 32 Try.underlying23 info_run rfl (by decide) (by decide) gx j cx _ rfl (HO.out.1.alloc _) _ _ _ _ rfl rfl (four_cells _ _ _ _ _ _) (by omega) ?_; intro gx' cx' w1 hown hgr hloc hsz; have y0' := cell_over y0 hQw hgr hQx; have x0' := cell_over x0 hPw hgr hPx; have x1' := cell_over x1 hPw hgr hPx; have x2' := cell_over x2 hPw hgr hPx; have x3' := cell_over x3 hPw hgr hPx; have hs_w1 := hgr.size; (try simp at hs_w1); have HN := Lib.hid (And.intro hown (And.intro hgr hloc)); have HY := Lib.hid ((HO.out.2.1.alloc _).grown hgr hyx); clear hown hgr hloc)
          go_roundw
          case rel =>
            obtain ⟨hown, hgr, hloc⟩ := HN.out
            have hgx' : ws.heap.size ≤ gx' ∧ gx' ≠ gy := by
              rcases hloc with rfl | rfl
              · exact ⟨hgx, hxy⟩
              · simp; omega
            exact ⟨j + 1, gx', cx', gy, cy, ny, by omega, by go_num, rfl, rfl, by rw [erase_same HJ.out.1 rfl]; exact HO.out.2.2.2, ⟨hgx'.1, hgy, hgx'.2⟩, by rw [HJ.out.2.2, flat_append]; simpa [flat] using hown, by rw [erase_same HJ.out.1 rfl]; exact HY.out, below_gr (HO.out.2.2.1.alloc (by omega) _) hgr hgx (by simp; omega)⟩
          case measure => simp [intOf]; omega
        · have hjs' : ((j : Int) != (s : Int)) = true := by simp; omega
          go_wp2_with (first | (at_builtin; refine wp_append _ rfl _ _ 23 rfl 29 _ 4 32 Try.underlying23 info_run rfl (by decide) (by decide) gx j cx _ rfl (HO.out.1.alloc _) _ _ _ _ rfl rfl (four_cells _ _ _ _ _ _) (by omega) ?_; intro gx' cx' w1 hown hgr hloc hsz; have y0' := cell_over y0 hQw hgr hQx; have x0' := cell_over x0 hPw hgr hPx; have x1' := cell_over x1 hPw hgr hPx; have x2' := cell_over x2 hPw hgr hPx; have x3' := cell_over x3 hPw hgr hPx; have hs_w1 := hgr.size; (try simp at hs_w1); have HN := Lib.hid (And.intro hown (And.intro hgr hloc)); have HY := Lib.hid ((HO.out.2.1.alloc _).grown hgr hyx); clear hown hgr hloc) | (at_builtin; refine wp_append _ rfl _ _ 23 rfl 29 _ 4 32 Try.underlying23 info_run rfl (by decide) (by decide) gy ny cy _ rfl (HY.out.alloc _) _ _ _ _ rfl rfl (four_cells _ _ _ _ _ _) (by omega) ?_; intro gy' cy' w2 hown hgr hloc hsz2; have HN2 := Lib.hid (And.intro hown (And.intro hgr hloc)); clear hown hgr hloc))
          go_roundw
          case rel =>
            obtain ⟨hown, hgr, hloc⟩ := HN.out
            obtain ⟨hown2, hgr2, hloc2⟩ := HN2.out
            have hgx' : ws.heap.size ≤ gx' ∧ gx' ≠ gy ∧ gx' < w1.heap.size := by
              refine ⟨?_, ?_, hown.lt⟩
              · rcases hloc with rfl | rfl
                · exact hgx
                · simp; omega
              · rcases hloc with rfl | rfl
                · exact hxy
                · simp; omega
            have hgy' : ws.heap.size ≤ gy' ∧ gx' ≠ gy' := by
              rcases hloc2 with rfl | rfl
              · exact ⟨hgy, hgx'.2.1⟩
              · simp; omega
            have e1 := erase_more HJ.out.1 hjs
            have hb1 := below_gr (HO.out.2.2.1.alloc (by omega) (.cells #[.int .i64 r.f, .int .i64 r.t, .int .i64 r.s, .int .i64 r.g] 29)) hgr hgx (by simp; omega)
            exact ⟨j + 1, gx', cx', gy', cy', ny + 1, by omega, by go_num, rfl, by go_num, by rw [e1, List.length_append, HO.out.2.2.2]; rfl, ⟨hgx'.1, hgy'.1, hgy'.2⟩, (by rw [HJ.out.2.2, flat_append]; simpa [flat] using (hown.alloc _).grown hgr2 hgx'.2.1), by rw [e1, sub_snoc rs _ u HJ.out.2.1, flat_append]; simpa [flat] using hown2, below_gr (hb1.alloc (by omega) _) hgr2 hgy (by simp; omega)⟩
          case measure => simp [intOf]; omega
      · have e : j = k := by omega
        subst e
        have hTt : T.take j = T := List.take_of_length_le (by have := HM.out.2; omega)
        rw [hTt] at hox hoy hny
        have hok := htr.ok
        have hsl : (sub rs T).length = j := by rw [sub_len]; exact HM.out.2
        have hyl : (sub rs (T.eraseIdx s)).length = ny := by rw [sub_len]; exact hny
        have k1 := fun w q c h => Lib.hid (iLoops_at (N := N) (q := q) (c := c) (v := 0) w hsl h (by omega) (tree_loops htr))
        have k2 := fun w q c h => Lib.hid (iWhole_n (n := N) (p := q) (c := c) (b := true) w hsl h (by omega) htr.whole)
        have k3 := fun w q c h => Lib.hid (iWhole_n (n := N) (p := q) (c := c) (b := true) w HM.out.1 h (by omega) htr.net)
        have k4 := fun w q c h => Lib.hid (iWhole_n (n := N) (p := q) (c := c) (b := false) w hyl h (by omega) (erase_less htr (by have := HM.out.2; omega)))
        have HX := Lib.hid (And.intro hox.runs hoy.runs)
        have hB : Below w.heap.size w wr := H0.out.2.2.1.trans (hbr.mono (by omega))
        have hsB := hB.size
        clear hox hoy hbr HO hrr hir hny hsl hyl htr hok hTt
        go_wp2_with (first | (go_at_call 17; (with_reducible refine ((k1 _ _ _ ?_).out).mono ?_); (focus ((exact HX.out.1); done)); rintro e wx ⟨rfl, hb_wx⟩; have hs_wx := hb_wx.size; (try simp at hs_wx)) | (go_at_call 18; (with_reducible refine ((k2 _ _ _ ?_).out).mono ?_); (focus ((exact HX.out.1.below (by repeat (first | assumption | exact Below.refl _ _ | (refine below_chain ?_ (by assumption) (by first | omega | (simp <;> omega) | simp)) | (refine Below.alloc ?_ (by first | omega | (simp <;> omega) | simp) _) | (apply below_drewN) | (apply below_drew) | (refine Below.setCell ?_ (by first | omega | (simp <;> omega) | simp) _)))); done)); rintro e wy ⟨rfl, hb_wy⟩; have hs_wy := hb_wy.size; (try simp at hs_wy)) | (go_at_call 18; (with_reducible refine ((k3 _ _ _ ?_).out).mono ?_); (focus ((exact HRr.out.1.below (by repeat (first | assumption | exact Below.refl _ _ | (refine below_chain ?_ (by assumption) (by first | omega | (simp <;> omega) | simp)) | (refine Below.alloc ?_ (by first | omega | (simp <;> omega) | simp) _) | (apply below_drewN) | (apply below_drew) | (refine Below.setCell ?_ (by first | omega | (simp <;> omega) | simp) _)))); done)); rintro e wz ⟨rfl, hb_wz⟩; have hs_wz := hb_wz.size; (try simp at hs_wz)) | (go_at_call 18; (with_reducible refine ((k4 _ _ _ ?_).out).mono ?_); (focus ((exact HX.out.2.below (by repeat (first | assumption | exact Below.refl _ _ | (refine below_chain ?_ (by assumption) (by first | omega | (simp <;> omega) | simp)) | (refine Below.alloc ?_ (by first | omega | (simp <;> omega) | simp) _) | (apply below_drewN) | (apply below_drew) | (refine Below.setCell ?_ (by first | omega | (simp <;> omega) | simp) _)))); done)); rintro e wv ⟨rfl, hb_wv⟩; have hs_wv := hb_wv.size; (try simp at hs_wv)))
        go_ret
        exact ⟨rfl, (by repeat (first | assumption | exact Below.refl _ _ | (refine below_chain ?_ (by assumption) (by first | omega | (simp <;> omega) | simp)) | (refine Below.alloc ?_ (by first | omega | (simp <;> omega) | simp) _) | (apply below_drewN) | (apply below_drew) | (refine Below.setCell ?_ (by first | omega | (simp <;> omega) | simp) _)))⟩

theorem walk_long (len cap : Nat) (p : Option Addr) (len1 cap1 : Nat) (p1 : Option Addr) (w : World) (hl : 1048576 < len ∨ 1048576 < len1) :
    Calls Try.prog 3 #[.slice p len cap, .slice p1 len1 cap1] w fun e w' => e = .returned (.bool true) ∧ Below w.heap.size w w' := by
  by_cases h0 : (1048576 : Int) < (len : Int)
  · go_enter Try.func3, Try.ntmps3
    go_wp2
    go_ret
    exact ⟨rfl, Below.refl _ _⟩
  · have hl' : (1048576 : Int) < (len1 : Int) := by omega
    clear hl
    go_enter Try.func3, Try.ntmps3
    go_wp2
    go_ret
    exact ⟨rfl, Below.refl _ _⟩

set_option maxRecDepth 100000 in
theorem lifted (os : Os) (started : os.Started) (H : Type) (enc : TypeId × Value → H) :
    ReturnsInHanded {} Try.checked os 3 .any (Rows.fnTreeSpec.pre6 enc Try.prog Try.f3 Rows.fnTreeRow.domain false) (Rows.fnTreeSpec.post enc Try.prog Try.f3 false true false false) := by
  refine returnsInHanded_of_change (C := Try.checked) own started (by kernel_rfl) Try.func3
    (ChangeSpec.witness6 (enc := enc) (C := Try.checked) false ⟨#[], #[.slice none 0 0, .slice none 0 0], []⟩ 8 (by kernel_rfl) (by kernel_rfl) (by kernel_rfl) (by kernel_rfl)) ?_
  intro W base args ds gs before hval0 hW hcnd _
  have hval : ∀ (j : Nat) t v, Try.f3.params[j]? = some t → args[j]? = some v → Value.okWide Try.prog W .any base t v := hval0
  have hW' := hW
  obtain ⟨p, q, hA0, hV, rfl, hfz, hnd⟩ := hW
  have hA : DataW.TrodAll enc Try.prog W 0 (fun _ => true) true Try.f3.params.toList args.toList ds p := hA0
  rw [Try.params3] at hA hval
  obtain ⟨v0, vs0, d0, ds0, p0, q0, hargs, rfl, rfl, h0, r0⟩ := trodAll_cons hA
  obtain ⟨v1, vs1, d1, ds1, p1, q1, rfl, rfl, rfl, h1, r1⟩ := trodAll_cons r0
  obtain ⟨rfl, rfl, rfl⟩ := trodAll_nil r1
  obtain rfl : args = #[v0, v1] := by cases args; simp_all
  obtain ⟨rfl, rfl⟩ := trodVars_none hV
  obtain ⟨a0, len0, cap0, rfl⟩ := okWide_slice Try.underlying22 (hval 0 22 v0 rfl rfl)
  have k0 := h0
  have lt0 : ∀ x ∈ p0, x.block < W.heap.size := by obtain ⟨m, hm⟩ := k0; exact DataW.trod_lt m _ _ _ hm
  obtain ⟨z0, w0⟩ : ∃ zs, IsRow .u8 W a0 len0 cap0 zs := by
    obtain ⟨fuel, hf⟩ := h0
    rcases open_ints Try.underlying22 Try.underlying5 (by kernel_rfl) hf with ⟨hcs, _⟩ | ⟨x, l, c, zs, hcs, _, hl, hm, hz, _, hcell, hwz⟩
    · simp [Value.cells] at hcs
      obtain ⟨rfl, rfl, rfl⟩ := hcs
      exact ⟨[], .inl ⟨rfl, rfl, rfl, rfl⟩⟩
    · simp [Value.cells] at hcs
      obtain ⟨rfl, rfl, rfl⟩ := hcs
      exact ⟨zs, .inr ⟨_, rfl, hl, hm, by simpa using hz, hcell, hwz⟩⟩
  obtain ⟨a1, len1, cap1, rfl⟩ := okWide_slice Try.underlying22 (hval 1 22 v1 rfl rfl)
  have k1 := h1
  have lt1 : ∀ x ∈ p1, x.block < W.heap.size := by obtain ⟨m, hm⟩ := k1; exact DataW.trod_lt m _ _ _ hm
  obtain ⟨z1, w1⟩ : ∃ zs, IsRow .u8 W a1 len1 cap1 zs := by
    obtain ⟨fuel, hf⟩ := h1
    rcases open_ints Try.underlying22 Try.underlying5 (by kernel_rfl) hf with ⟨hcs, _⟩ | ⟨x, l, c, zs, hcs, _, hl, hm, hz, _, hcell, hwz⟩
    · simp [Value.cells] at hcs
      obtain ⟨rfl, rfl, rfl⟩ := hcs
      exact ⟨[], .inl ⟨rfl, rfl, rfl, rfl⟩⟩
    · simp [Value.cells] at hcs
      obtain ⟨rfl, rfl, rfl⟩ := hcs
      exact ⟨zs, .inr ⟨_, rfl, hl, hm, by simpa using hz, hcell, hwz⟩⟩
  clear hA0 hval0
  have hw : Calls Try.prog 3 #[.slice a0 len0 cap0, .slice a1 len1 cap1] W fun e w' => e = .returned (.bool true) ∧ Below W.heap.size W w' := by
    by_cases hl : len0 ≤ 1048576
    · by_cases hm : len1 ≤ 1048576
      · exact walk len0 cap0 a0 len1 cap1 a1 W hl hm (Lib.hid (code_of_row w0 hl)) (Lib.hid (code_of_row w1 hm))
      · exact walk_long len0 cap0 a0 len1 cap1 a1 W (by omega)
    · exact walk_long len0 cap0 a0 len1 cap1 a1 W (by omega)
  refine hw.mono fun e W' ⟨he, bel⟩ => ?_
  subst he
  exact ⟨_, rfl, _, _, _, [], _, [], hW', trodAll_mk1 (shut_bool Try.underlying4 _), (trodAll_cons_mk (Below.trod laidOut (by kernel_rfl) (of_decide_eq_true (by kernel_rfl)) k0 bel lt0) (trodAll_cons_mk (Below.trod laidOut (by kernel_rfl) (of_decide_eq_true (by kernel_rfl)) k1 bel lt1) trodAll_mk0)), rfl, bel.frame _, fun h => by cases h⟩

theorem over : Rows.fnTreeRow.holds Try.pinned (OpenSpec.ofChange Rows.fnTreeSpec) :=
  OpenClaim.holds_of_wide 3 Try.f3 rfl rfl rfl rfl rfl rfl rfl ⟨rfl, rfl, rfl, rfl, rfl⟩ rfl rfl rfl rfl rfl (by kernel_rfl) Try.func3 (by kernel_rfl)
    (of_decide_eq_true (by kernel_rfl)) (by unfold Func.isWrapper; first | (rw [if_pos (by decide +kernel)]; kernel_rfl) | (rw [if_neg (by decide +kernel)]; exact ⟨rfl, rfl⟩))
    (fun os started H enc _ => lifted os started H enc)

theorem proved : Rows.FnTreeSaid := over
end Go.Proofs.Ytgbnnepbnahecaa.fnTree

