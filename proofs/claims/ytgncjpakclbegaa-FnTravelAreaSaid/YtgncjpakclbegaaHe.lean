/-
  The program's closed traverses, by contract.
-/
import Derived.Test.YtgncjpakclbegaaHd
namespace Go.Proofs.Ytgncjpakclbegaa
open Go.RowKit Go.Shelf Poly
set_option linter.unusedVariables false

theorem ris_x {L : List P2} (ht : tvV L = true) (hl : lenOk (lensT L) = true) : risOk (lensT L) (xsT L) := ⟨hl, by rw [xsT_len, lensT_len], fun z hz => by have := xsT_bd ht z hz; omega⟩
theorem ris_y {L : List P2} (ht : tvV L = true) (hl : lenOk (lensT L) = true) : risOk (lensT L) (ysT L) := ⟨hl, by rw [ysT_len, lensT_len], fun z hz => by have := ysT_bd ht z hz; omega⟩
section
variable {p : Option Addr} {n c : Nat} {L : List P2} {w : World}
set_option maxHeartbeats 2000000 in
theorem iTravelClose_not (h : Ints w p (Poly.fl L)) (hn : L.length = n) (hb : tvV L = false) :
    Calls Try.prog 45 #[.slice p n c] w fun e w' => e = .returned (.tuple #[.slice none 0 0, .bool false]) ∧ Below w.heap.size w w' := by
  have H := Lib.hid h
  have c1 := fun w h => Lib.hid (iTravOf_no (p := p) (n := n) (c := c) (L := L) (w := w) h hn hb)
  clear h hn hb
  go_enter Try.func45, Try.ntmps45
  go_wp2_with ((go_at_call 81; (with_reducible refine ((c1 _ H.out).out).mono ?_); rintro e w1 ⟨rfl, hb_w1⟩; have hs_w1 := hb_w1.size; (try simp at hs_w1)))
  exact bodyPost_ret (v := .tuple #[.slice none 0 0, .bool false]) (by simp [results, Try.results45, go_sem]) rfl ⟨rfl, (by repeat (first | assumption | exact Below.refl _ _ | (refine below_chain ?_ (by assumption) (by first | omega | (simp <;> omega) | simp)) | (refine Below.alloc ?_ (by first | omega | (simp <;> omega) | simp) _) | (apply below_drewN) | (apply below_drew) | (refine Below.setCell ?_ (by first | omega | (simp <;> omega) | simp) _)))⟩
set_option maxHeartbeats 4000000 in
theorem iTravelClose_len (h : Ints w p (Poly.fl L)) (hn : L.length = n) (hb : tvV L = true) (hl : lenOk (lensT L) = false) :
    Calls Try.prog 45 #[.slice p n c] w fun e w' => e = .returned (.tuple #[.slice none 0 0, .bool false]) ∧ Below w.heap.size w w' := by
  have hlen := tvV_len hb
  have H := Lib.hid h
  have c1 := fun w h => Lib.hid (iTravOf_yes (p := p) (n := n) (c := c) (L := L) (w := w) h hn hb)
  have c2 := fun m t w h => Lib.hid (iTCoord m n 0 (fun s => s.1) (.inl ⟨rfl, rfl⟩) L t w h hn (by omega) (fun s hs => tvV_mem hb hs))
  have c3 := fun m t w h => Lib.hid (iTCoord m n 1 (fun s => s.2) (.inr ⟨rfl, rfl⟩) L t w h hn (by omega) (fun s hs => tvV_mem hb hs))
  have c4 := fun m t w h => Lib.hid (iTLens m n absP rfl L t w h hn (by omega) (fun s hs => tvV_mem hb hs))
  have hno : ∀ ss, ¬ risOk (lensT L) ss := fun ss hr => by rw [hr.1] at hl; cases hl
  have c5 := fun c d p q w h h' => Lib.hid (iShareRises_no n c n d p q (lensT L) (xsT L) w h h' (by rw [lensT_len, hn]) (by rw [xsT_len, hn]) (by omega) (by omega) (hno _))
  have c6 := fun c d p q w h h' => Lib.hid (iShareRises_no n c n d p q (lensT L) (ysT L) w h h' (by rw [lensT_len, hn]) (by rw [ysT_len, hn]) (by omega) (by omega) (hno _))
  clear h hn hb hl hno
  go_enter Try.func45, Try.ntmps45
  go_wp2_with (first
    | ((go_at_call 81; (with_reducible refine ((c1 _ H.out).out).mono ?_); rintro e w1 ⟨t, rfl, hT, hb_w1⟩; have hs_w1 := hb_w1.size; (try simp at hs_w1)); have HT := Lib.hid hT; clear hT)
    | ((go_at_call 92; (with_reducible refine ((c4 _ _ _ HT.out).out).mono ?_); rintro e w2 ⟨q2, cq2, rfl, hq2, hb_w2⟩; have hs_w2 := hb_w2.size; (try simp at hs_w2)))
    | ((go_at_call 83; (with_reducible refine ((c2 _ _ _ (HT.out.below hb_w2 (Nat.le_refl _))).out).mono ?_); rintro e w3 ⟨q3, cq3, rfl, hq3, hb_w3⟩; have hs_w3 := hb_w3.size; (try simp at hs_w3)))
    | ((go_at_call 95; (with_reducible refine ((c5 _ _ _ _ _ (hq2.below hb_w3) hq3).out).mono ?_); rintro e w4 ⟨⟨q4, d4, rfl⟩, hb_w4⟩; have hs_w4 := hb_w4.size; (try simp at hs_w4)))
    | ((go_at_call 83; (with_reducible refine ((c3 _ _ _ ((HT.out.below hb_w2 (Nat.le_refl _)).below (hb_w3.trans (hb_w4.mono hs_w3)) (Nat.le_refl _))).out).mono ?_); rintro e w5 ⟨q5, cq5, rfl, hq5, hb_w5⟩; have hs_w5 := hb_w5.size; (try simp at hs_w5)))
    | ((go_at_call 95; (with_reducible refine ((c6 _ _ _ _ _ (((hq2.below hb_w3).below hb_w4).below hb_w5) hq5).out).mono ?_); rintro e w6 ⟨⟨q6, d6, rfl⟩, hb_w6⟩; have hs_w6 := hb_w6.size; (try simp at hs_w6))))
  exact bodyPost_ret (v := .tuple #[.slice none 0 0, .bool false]) (by simp [results, Try.results45, go_sem]) rfl ⟨rfl, (by repeat (first | assumption | exact Below.refl _ _ | (refine below_chain ?_ (by assumption) (by first | omega | (simp <;> omega) | simp)) | (refine Below.alloc ?_ (by first | omega | (simp <;> omega) | simp) _) | (apply below_drewN) | (apply below_drew) | (refine Below.setCell ?_ (by first | omega | (simp <;> omega) | simp) _)))⟩
set_option maxRecDepth 100000 in
set_option maxHeartbeats 8000000 in
theorem iTravelClose_in (b : Bool) (h : Ints w p (Poly.fl L)) (hn : L.length = n) (hb : tvV L = true) (hl : lenOk (lensT L) = true) (hc : tvV (clsT L) = b) :
    Calls Try.prog 45 #[.slice p n c] w fun e w' => ∃ g, (b = true → e = .returned (.tuple #[.slice (some ⟨g, 0, none⟩) n n, .bool true])) ∧ (b = false → e = .returned (.tuple #[.slice none 0 0, .bool false])) ∧ w.heap.size ≤ g ∧ Own w' g 31 2 n n (Poly.fl (clsT L)) ∧ Below w.heap.size w w' := by
  have hlen := tvV_len hb
  rw [hn] at hlen
  have H := Lib.hid h
  have hx := ris_x hb hl
  have hy := ris_y hb hl
  have c1 := fun w h => Lib.hid (iTravOf_yes (p := p) (n := n) (c := c) (L := L) (w := w) h hn hb)
  have c2 := fun m t w h => Lib.hid (iTCoord m n 0 (fun s => s.1) (.inl ⟨rfl, rfl⟩) L t w h hn (by omega) (fun s hs => tvV_mem hb hs))
  have c3 := fun m t w h => Lib.hid (iTCoord m n 1 (fun s => s.2) (.inr ⟨rfl, rfl⟩) L t w h hn (by omega) (fun s hs => tvV_mem hb hs))
  have c4 := fun m t w h => Lib.hid (iTLens m n absP rfl L t w h hn (by omega) (fun s hs => tvV_mem hb hs))
  have c5 := fun c d p q w h h' => Lib.hid (iShareRises_yes n c d p q (lensT L) (xsT L) w h h' (by rw [lensT_len, hn]) hx)
  have c6 := fun c d p q w h h' => Lib.hid (iShareRises_yes n c d p q (lensT L) (ysT L) w h h' (by rw [lensT_len, hn]) hy)
  have c7 := fun q d w h => Lib.hid (iTravelValid_is (p := q) (n := n) (c := d) (L := clsT L) (w := w) (b := b) h (by rw [clsT_len, hn]) hc)
  have hm := fun w => made_pts w n (by omega)
  have HN := Lib.hid hn
  clear h hn hb hl hx hy hc
  go_enter Try.func45, Try.ntmps45
  go_upto_region 9 with (first
    | ((go_at_call 81; (with_reducible refine ((c1 _ H.out).out).mono ?_); rintro e w1 ⟨t, rfl, hT, hb_w1⟩; have hs_w1 := hb_w1.size; (try simp at hs_w1)); have HT := Lib.hid hT; clear hT)
    | ((go_at_call 92; (with_reducible refine ((c4 _ _ _ HT.out).out).mono ?_); rintro e w2 ⟨q2, cq2, rfl, hq2, hb_w2⟩; have hs_w2 := hb_w2.size; (try simp at hs_w2)))
    | ((go_at_call 83; (with_reducible refine ((c2 _ _ _ (HT.out.below hb_w2 (Nat.le_refl _))).out).mono ?_); rintro e w3 ⟨q3, cq3, rfl, hq3, hb_w3⟩; have hs_w3 := hb_w3.size; (try simp at hs_w3)))
    | ((go_at_call 95; (with_reducible refine ((c5 _ _ _ _ _ (hq2.below hb_w3) hq3).out).mono ?_); rintro e w4 ⟨gx, cx, rfl, hgx, hox, hb_w4⟩; have hs_w4 := hb_w4.size; (try simp at hs_w4)))
    | ((go_at_call 83; (with_reducible refine ((c3 _ _ _ ((HT.out.below hb_w2 (Nat.le_refl _)).below (hb_w3.trans (hb_w4.mono hs_w3)) (Nat.le_refl _))).out).mono ?_); rintro e w5 ⟨q5, cq5, rfl, hq5, hb_w5⟩; have hs_w5 := hb_w5.size; (try simp at hs_w5)))
    | ((go_at_call 95; (with_reducible refine ((c6 _ _ _ _ _ (((hq2.below hb_w3).below hb_w4).below hb_w5) hq5).out).mono ?_); rintro e w6 ⟨gy, cy', rfl, hgy, hoy, hb_w6⟩; have hs_w6 := hb_w6.size; (try simp at hs_w6))))
  have hbw : Below w.heap.size w w6 := (by repeat (first | assumption | exact Below.refl _ _ | (refine below_chain ?_ (by assumption) (by first | omega | (simp <;> omega) | simp)) | (refine Below.alloc ?_ (by first | omega | (simp <;> omega) | simp) _) | (apply below_drewN) | (apply below_drew) | (refine Below.setCell ?_ (by first | omega | (simp <;> omega) | simp) _)))
  have hox6 := (hox.below hb_w5).below hb_w6
  have hlx := hox6.lt
  have hly := hoy.lt
  have hw6 := hbw.size
  have HO := Lib.hid (And.intro hox6 (And.intro hoy hbw))
  clear hox hoy hox6 hbw hb_w1 hb_w2 hb_w3 hb_w4 hb_w5 hb_w6 hq2 hq3 hq5 c1 c2 c3 c4 c5 c6 HT
  have h0 : Own (w6.alloc (.cells (madeCells (Array.replicate 2 (.int .i64 0)) (n * 2)) 31)) w6.heap.size 31 2 n n (Poly.fl (fillP 0 (clsT L))) := by
    rw [fillP_zero, fl_zeros, clsT_len, HN.out]
    exact Own.made w6 31 n 2 (by decide) (by unfold maxLen; omega)
  have H0 := Lib.hid h0
  clear h0
  go_wp2_with fail
  clear hm
  go_loopw [12, 47] (fun _ i wr => ∃ k : Nat, k ≤ n ∧ i = .int .i64 k ∧ Own wr w6.heap.size 31 2 n n (Poly.fl (fillP k (clsT L))) ∧ Below w6.heap.size w6 wr) (fun _ i wr => n - (intOf i).toNat)
  case atStart => exact ⟨0, Nat.zero_le _, rfl, H0.out, (by repeat (first | assumption | exact Below.refl _ _ | (refine below_chain ?_ (by assumption) (by first | omega | (simp <;> omega) | simp)) | (refine Below.alloc ?_ (by first | omega | (simp <;> omega) | simp) _) | (apply below_drewN) | (apply below_drew) | (refine Below.setCell ?_ (by first | omega | (simp <;> omega) | simp) _)))⟩
  case round =>
    clear H0
    obtain ⟨k, hk, rfl, how, hb⟩ := hrel
    have hs := hb.size
    by_cases hlt : k < n
    · have hlt' : (k : Int) < (n : Int) := by omega
      have hk0 : (0 : Int) ≤ (k : Int) := by omega
      have hcl : (clsT L)[k]? = some (nth (rsh (lensT L) (xsT L)) k, nth (rsh (lensT L) (ysT L)) k) := by
        have h1 : k < L.length := by rw [HN.out]; exact hlt
        rw [← cy_cls h1]; exact cy_lt (by rw [clsT_len]; exact h1)
      have x0 := ((HO.out.1.below hb).cells (at_nth (l := rsh (lensT L) (xsT L)) (i := k) (by rw [rsh_len, lensT_len, HN.out]; exact hlt)))
      have y0 := ((HO.out.2.1.below hb).cells (at_nth (l := rsh (lensT L) (ysT L)) (i := k) (by rw [rsh_len, lensT_len, HN.out]; exact hlt)))
      obtain ⟨X, hX⟩ : ∃ X, nth (rsh (lensT L) (xsT L)) k = X := ⟨_, rfl⟩
      obtain ⟨Y, hY⟩ : ∃ Y, nth (rsh (lensT L) (ysT L)) k = Y := ⟨_, rfl⟩
      rw [hX] at x0
      rw [hY] at y0
      rw [hX, hY] at hcl
      have HC := Lib.hid hcl
      have hlf : (fillP k (clsT L)).length = n := by rw [fillP_len _ _ (by rw [clsT_len, HN.out]; exact hk), clsT_len, HN.out]
      obtain ⟨r', hr'⟩ : ∃ r', (fillP k (clsT L))[k]? = some r' := ⟨_, List.getElem?_eq_getElem (by rw [hlf]; exact hlt)⟩
      have f0 := how.frozen (k * 2)
      have f1 := how.frozen (k * 2 + 1)
      have z0 := how.cells (fl_at hr').1
      have z1 := how.cells (fl_at hr').2
      have hlw := how.lt
      have HW := Lib.hid (And.intro how (And.intro hb hlf))
      have l1 : gx < wr.heap.size := by omega
      have l2 : gy < wr.heap.size := by omega
      clear how hb hcl hX hY hr' hlf
      go_upto_region 13 with fail
      (refine wp_region_grows_tail 12 (by kernel_rfl) (by kernel_rfl) ?_; simp only [List.take_succ_cons, List.take_zero, List.drop_succ_cons, List.drop_zero]; intro W_wg hWc_wg hWs_wg hWe_wg; (repeat (go_big_quiet_step ((fail)))); with_reducible refine wpQuiet_nil ?_; clear hWe_wg hWs_wg hWc_wg W_wg; intro wg hb_wg; obtain ⟨hc_wg, hf_wg⟩ := bcell hb_wg; (try simp only [World.size_drew, World.cell?_drew, World.frozen?_drew, World.heap_drewN, World.cell?_drewN, World.frozen?_drewN] at hc_wg hf_wg); have hs_wg := hb_wg.size; (try simp at hs_wg))
      go_wp2_with fail
      refine ⟨⟨k + 1, by omega, by go_num, ?_, ?_⟩, by simp [intOf]; omega⟩
      · have := (HW.out.1.below hb_wg).setP (i := k) (by rw [HW.out.2.2]; exact hlt) (X, Y)
        rw [fillP_set HC.out] at this
        exact this
      · exact ((HW.out.2.1.trans (hb_wg.mono hs)).setCell (p := ⟨w6.heap.size, k * 2, none⟩) (Nat.le_refl _) _).setCell (p := ⟨w6.heap.size, k * 2 + 1, none⟩) (Nat.le_refl _) _
    · have e : k = n := by omega
      subst e
      have hf : fillP k (clsT L) = clsT L := by have := fillP_all (clsT L); rw [clsT_len, HN.out] at this; exact this
      rw [hf] at how
      have HW := Lib.hid (And.intro how hb)
      have hlw := how.lt
      clear how hb hf
      cases b
      · go_wp2_with ((go_at_call 51; (with_reducible refine ((c7 _ _ _ HW.out.1.pts).out).mono ?_); rintro e wv ⟨rfl, hb_wv⟩; have hs_wv := hb_wv.size; (try simp at hs_wv)))
        exact bodyPost_ret (v := .tuple #[.slice none 0 0, .bool false]) (by simp [results, Try.results45, go_sem]) rfl ⟨rfl, w6.heap.size, hw6, HW.out.1.below hb_wv, (HO.out.2.2.trans (HW.out.2.mono hw6)).trans (hb_wv.mono (by omega))⟩
      · go_wp2_with ((go_at_call 51; (with_reducible refine ((c7 _ _ _ HW.out.1.pts).out).mono ?_); rintro e wv ⟨rfl, hb_wv⟩; have hs_wv := hb_wv.size; (try simp at hs_wv)))
        exact bodyPost_ret (v := .tuple #[.slice (some ⟨w6.heap.size, 0, none⟩) k k, .bool true]) (by simp [results, Try.results45, go_sem]) rfl ⟨w6.heap.size, rfl, hw6, HW.out.1.below hb_wv, (HO.out.2.2.trans (HW.out.2.mono hw6)).trans (hb_wv.mono (by omega))⟩
theorem iTravelClose_no (h : Ints w p (Poly.fl L)) (hn : L.length = n) (hc : clsOk L = false) :
    Calls Try.prog 45 #[.slice p n c] w fun e w' => e = .returned (.tuple #[.slice none 0 0, .bool false]) ∧ Below w.heap.size w w' := by
  unfold clsOk at hc
  cases ht : tvV L with
  | false => exact iTravelClose_not h hn ht
  | true =>
    cases hl : lenOk (lensT L) with
    | false => exact iTravelClose_len h hn ht hl
    | true =>
      rw [ht, hl] at hc
      simp only [Bool.true_and] at hc
      refine (iTravelClose_in false h hn ht hl hc).mono ?_
      rintro e w' ⟨g, -, h2, -, -, h5⟩
      exact ⟨h2 rfl, h5⟩
theorem iTravelClose_yes (h : Ints w p (Poly.fl L)) (hn : L.length = n) (hc : clsOk L = true) :
    Calls Try.prog 45 #[.slice p n c] w fun e w' => ∃ g, e = .returned (.tuple #[.slice (some ⟨g, 0, none⟩) n n, .bool true]) ∧ w.heap.size ≤ g ∧ Own w' g 31 2 n n (Poly.fl (clsT L)) ∧ Below w.heap.size w w' := by
  unfold clsOk at hc
  simp only [Bool.and_eq_true] at hc
  refine (iTravelClose_in true h hn hc.1.1 hc.1.2 hc.2).mono ?_
  rintro e w' ⟨g, h1, -, h3, h4, h5⟩
  exact ⟨g, h1 rfl, h3, h4, h5⟩
end
end Go.Proofs.Ytgncjpakclbegaa
