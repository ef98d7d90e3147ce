/-
  The program's AdjustHeights, where the package's error variable holds an error.
-/
import Derived.Test.YtoaomjchaihkaaaGreatDoorEsz
import Derived.Test.YtoaomjchaihkaaaGreatDoorEgz
namespace Go.Proofs.YtoaomjchaihkaaaGreatDoor
open Go.RowKit
set_option linter.unusedVariables false

theorem dT_zero {n : Nat} {rs : List Rn} (hn : nOk ((n + 1 : Nat) : Int) rs = true) (hw : nWhole ((n + 1 : Nat) : Int) rs = false) : dT n rs = 0 := by
  unfold dT
  rw [← heavy_det hn]
  have h1 : ¬ 0 < many (n + 1) rs := fun h => by rw [many_whole.1 h] at hw; cases hw
  have h2 : trees (n + 1) rs = [] := List.eq_nil_of_length_eq_zero (by unfold many at h1; omega)
  unfold heavy
  rw [h2]; rfl
theorem rOk_ne {a b : Int} (h : Quo.rOk a b = true) : b ≠ 0 := by
  unfold Quo.rOk at h
  simp at h
  exact h.1.2.2.2.2
theorem rOk_q {N n j : Nat} {rs : List Rn} (hn : nOk (N : Int) rs = true) (hn5 : n ≤ 5) (hj : j < n) (hD : dT n rs ≠ 0) : Quo.rOk (nT n rs j) (dT n rs) = Quo.qO (hT n rs (j + 1)) (dT n rs) := by
  have h1 := nT_low hn hn5 hj
  have h2 := dT_low hn hn5
  exact (Quo.of_is (by omega) hD (by omega)).1
/-- the quotients all are valid exactly if the adjusted heights are -/
theorem adj_iff {N n : Nat} {rs : List Rn} (hn : nOk (N : Int) rs = true) (hNn : N = n + 1) : adjOk (N : Int) rs = true ↔ ∀ j, j < n → Quo.rOk (nT n rs j) (dT n rs) = true := by
  have hn5 : n ≤ 5 := by have := (nOk_true hn).2.1; omega
  have hn1 : 1 ≤ n := by have := (nOk_true hn).1; omega
  constructor
  · intro h j hj
    obtain ⟨hw, hk⟩ := adj_true h hNn
    have hD : 0 < dT n rs := dT_pos (by rw [← hNn]; exact hw) (by rw [← hNn]; exact hn)
    rw [rOk_q hn hn5 hj (by omega)]
    exact okH_true.1 hk (j + 1) (by omega)
  · intro h
    have hD := rOk_ne (h 0 (by omega))
    have hw : nWhole (N : Int) rs = true := by
      cases e : nWhole (N : Int) rs
      · exact absurd (dT_zero (by rw [← hNn]; exact hn) (by rw [← hNn]; exact e)) hD
      · rfl
    have hk : okH n rs = true := okH_true.2 (fun j hj => by
      match j, hj with
      | 0, _ =>
        show Quo.qO 0 (dT n rs) = true
        exact Quo.Val.ok (t := 0) (l := 1) ⟨Quo.qv_whole (by omega) (by omega), hD, by simp⟩
      | j + 1, hj => rw [← rOk_q hn hn5 (by omega) hD]; exact h j (by omega))
    unfold adjOk
    rw [hw, Int.toNat_natCast, hNn, Nat.add_sub_cancel, hk]; rfl
theorem hqs_all {N n : Nat} {rs : List Rn} (hn : nOk (N : Int) rs = true) (hNn : N = n + 1) (h : ∀ j, j < n → Quo.rOk (nT n rs j) (dT n rs) = true) :
    [0, 1] ++ flq ((List.range n).map (fun j => (Quo.rT (nT n rs j) (dT n rs), Quo.rL (nT n rs j) (dT n rs)))) = flq (hqs n rs N) := by
  have hn1 : 1 ≤ n := by have := (nOk_true hn).1; omega
  have hD := rOk_ne (h 0 (by omega))
  have e1 : (List.range n).map (fun j => (Quo.rT (nT n rs j) (dT n rs), Quo.rL (nT n rs j) (dT n rs))) = (List.range n).map ((fun i => (Quo.T (hT n rs i) (dT n rs), Quo.L (hT n rs i) (dT n rs))) ∘ Nat.succ) := by
    refine List.map_congr_left (fun j hj => ?_)
    have hj' := List.mem_range.1 hj
    show _ = (Quo.T (nT n rs j) (dT n rs), Quo.L (nT n rs j) (dT n rs))
    rw [Quo.rT_ok (h j hj'), Quo.rL_ok (h j hj')]
  have e2 : hqs n rs N = (Quo.T 0 (dT n rs), Quo.L 0 (dT n rs)) :: (List.range n).map ((fun i => (Quo.T (hT n rs i) (dT n rs), Quo.L (hT n rs i) (dT n rs))) ∘ Nat.succ) := by
    unfold hqs
    rw [hNn, List.range_succ_eq_map, List.map_cons, List.map_map]; rfl
  rw [e1, e2, (Quo.T_zero hD).1, (Quo.T_zero hD).2]
  rfl
set_option maxHeartbeats 4000000 in
set_option maxRecDepth 100000 in
theorem iAdjH (N n : Nat) (p : Option Addr) (c m : Nat) (rs : List Rn) (w : World) (h : RunsE w p rs) (hn : nOk (N : Int) rs = true) (hm : rs.length = m) (hNn : N = n + 1) :
    Calls Tryz.prog 7 #[.int .i64 N, .slice p m c] w fun e w' => ((adjOk (N : Int) rs = true ∧ ∃ g cap, e = .returned (.tuple #[.slice (some ⟨g, 0, none⟩) N cap, .bool true]) ∧ w.heap.size ≤ g ∧ Own w' g 36 2 N cap (flq (hqs n rs N))) ∨ (adjOk (N : Int) rs = false ∧ e = .returned (.tuple #[.slice none 0 0, .bool false]))) ∧ Below w.heap.size w w' := by
  have hN6 : N ≤ 6 := by have := (nOk_true hn).2.1; omega
  have hn5 : n ≤ 5 := by omega
  have hn1 : 1 ≤ n := by have := (nOk_true hn).1; omega
  obtain ⟨hR, a, ha⟩ := h
  have hsm := lap0_small n (fun r hr => ⟨(ok_runs hn r hr).1, (ok_runs hn r hr).2.1, (ok_runs hn r hr).2.2.1⟩) (nOk_true hn).2.2.1
  have hupc : ∀ j, j < n → ∀ i k, i < n → k < n → upc (ent (mkL n (lap0 rs))) j (num (rgL n (fun i => srcs rs (i + 1)))) i k = upc (lap0 rs) j (fun i => srcs rs (i + 1)) i k := fun j hj i k hi hk => by
    by_cases e : k = j
    · subst e; rw [upd_at, upd_at, num_at (rgL_at _ hi)]
    · rw [upd_ne e, upd_ne e, ent_mkL hi hk]
  have c1 := fun w h => Lib.hid (iSource_yes N n p c m rs w h hn hm hNn)
  have c2 := fun w h => Lib.hid (iMxOf N (N * N) p c m rs w h hn hm rfl)
  have c3 := fun g w h => Lib.hid (iRows (N * N) N n g (lap rs) w h rfl hNn hN6)
  have c4 := fun c p q d w ha h hq => Lib.hid (iQuos n c d p q (mkL n (lap0 rs)) (rgL n (fun i => srcs rs (i + 1))) (dT n rs) (nT n rs) w a ha h hq mkL_sq (rgL_len _ _) hn5
    (small_in (e := 1000) (fun i j hi hj => by rw [ent_mkL hi hj]; exact hsm i j hi hj) (by omega))
    (det_congr (fun i j hi hj => ent_mkL hi hj)) (by have := dT_low hn hn5; omega)
    (fun j hj i k hi hk => by
      rw [hupc j hj i k hi hk]
      have := (put_cob hn hn5 hj).ent i k hi hk
      have h2 : (if k = j then (10800000 : Int) else 108) ≤ 10800000 := by split <;> omega
      omega)
    (fun j hj => det_congr (fun i k hi hk => hupc j hj i k hi hk))
    (fun j hj => by have := nT_low hn hn5 hj; omega))
  obtain ⟨K, hK⟩ : ∃ K, N * N = K := ⟨_, rfl⟩
  rw [hK] at c2 c3
  by_cases hall : ∀ j, j < n → Quo.rOk (nT n rs j) (dT n rs) = true
  · have c5 := fun (c : Nat) (p q : Option Addr) (d : Nat) (w : World) ha h hq => Lib.hid (show Calls Tryz.prog 32 #[.slice p n c, .slice q n d] w fun e w' => ∃ g, e = .returned (.tuple #[.slice (some ⟨g, 0, none⟩) n n, .nilIface]) ∧ Own w' g 36 2 n n (flq ((List.range n).map (fun j => (Quo.rT (nT n rs j) (dT n rs), Quo.rL (nT n rs j) (dT n rs))))) ∧ Below w.heap.size w w' from (c4 c p q d w ha h hq).out.mono (fun e w' ⟨hd, hb⟩ => by
      rcases hd with ⟨_, g, he, _, ho⟩ | ⟨⟨j, hj, hf⟩, _⟩
      · exact ⟨g, he, ho, hb⟩
      · rw [hall j hj] at hf; cases hf))
    have HQ := Lib.hid (And.intro (hqs_all hn hNn hall) (And.intro ((adj_iff hn hNn).2 hall) hNn))
    have H := Lib.hid (And.intro hR ha)
    clear hR ha hall hm hn hNn hK hsm hupc c4
    go_enter Tryz.func7, Tryz.ntmps7
    go_upto_region 5 with (first
      | ((go_at_call 31; (with_reducible refine ((c1 _ ?_).out).mono ?_); (focus ((exact H.out.1); done)); rintro e wa ⟨gs, cs, rfl, hgs, os, hb_wa⟩; have hs_wa := hb_wa.size; (try simp at hs_wa)); have OS := Lib.hid os; clear os)
      | ((go_at_call 33; (with_reducible refine ((c2 _ ?_).out).mono ?_); (focus (exact H.out.1.below hb_wa; done)); rintro e wb ⟨g, rfl, hg_wb, ho_wb, hb_wb⟩); have hs_wb := hb_wb.size; have HO := Lib.hid ho_wb; clear ho_wb)
      | ((go_at_call 34; (with_reducible refine ((c3 _ _ ?_).out).mono ?_); (focus (exact HO.out; done)); rintro e wc ⟨g', bs, rfl, hg_wc, hb_wc⟩); have hs_wc := hb_wc.size; have HG := Lib.hid hg_wc; clear hg_wc)
      | ((go_at_call 32; (with_reducible refine ((c5 _ _ _ _ _ ?_ ?_ ?_).out).mono ?_); (focus (((exact cell_below_keep (hb_wa.trans ((hb_wb.trans (hb_wc.mono hs_wb)).mono hs_wa)) H.out.2)); done)); (focus (((exact HG.out.read)); done)); (focus (((exact (OS.out.below (hb_wb.trans (hb_wc.mono hs_wb))).ints)); done)); rintro e wd ⟨gq, rfl, oq, hb_wd⟩; have hs_wd := hb_wd.size; (try simp at hs_wd)); have OQ := Lib.hid oq; clear oq))
    have hB := hb_wa.trans ((hb_wb.trans ((hb_wc.trans (hb_wd.mono hs_wc)).mono hs_wb)).mono hs_wa)
    have er := cell_below_keep hB H.out.2
    have HB := Lib.hid hB
    have hsB := hB.size
    clear hB hb_wa hb_wb hb_wc hb_wd OS HO HG c1 c2 c3 c5
    have c6 := fun w => Lib.hid (is_nil a w)
    go_upto_region 7 with (go_at_call 35; (with_reducible refine ((c6 _).out).mono ?_); rintro e wx ⟨rfl, rfl⟩)
    have c7 := fun (W : World) (ho : Own W gq 36 2 n n (flq ((List.range n).map (fun j => (Quo.rT (nT n rs j) (dT n rs), Quo.rL (nT n rs j) (dT n rs)))))) vb vc h0 h1 => Lib.hid (iInsert gq n vb vc (flq ((List.range n).map (fun j => (Quo.rT (nT n rs j) (dT n rs), Quo.rL (nT n rs j) (dT n rs))))) W ho hn1 hn5 h0 h1)
    clear c6
    go_wp2_with (go_at_call 36; (with_reducible refine ((c7 _ ?_ _ _ ?_ ?_).out).mono ?_); (focus (exact OQ.out.alloc _; done)); (focus (simp [go_sem]; done)); (focus (simp [go_sem]; done)); rintro e wy ⟨cap, rfl, oy, hb_wy⟩; have hs_wy := hb_wy.size; have OY := Lib.hid oy; clear oy)
    have hN1 : n + 1 = N := HQ.out.2.2.symm
    have HO := Lib.hid (show Own wy (wx.heap.size + 1) 36 2 N cap (flq (hqs n rs N)) from by have := OY.out; rw [HQ.out.1, hN1] at this; simpa using this)
    clear OY
    have hBy : Below w.heap.size w wy := HB.out.trans ((((Below.refl wx.heap.size wx).alloc (Nat.le_refl _) _).trans (hb_wy.mono (by simp))).mono hsB)
    rw [hN1]
    refine bodyPost_ret (v := .tuple #[.slice (some ⟨wx.heap.size + 1, 0, none⟩) N cap, .bool true]) (by simp [results, Tryz.results7, go_sem]) rfl ⟨.inl ⟨HQ.out.2.1, _, cap, rfl, by omega, HO.out⟩, hBy⟩
  · have c5 := fun (c : Nat) (p q : Option Addr) (d : Nat) (w : World) ha h hq => Lib.hid (show Calls Tryz.prog 32 #[.slice p n c, .slice q n d] w fun e w' => e = .returned (.tuple #[.slice none 0 0, .iface 162 (.pointer (some a))]) ∧ Below w.heap.size w w' from (c4 c p q d w ha h hq).out.mono (fun e w' ⟨hd, hb⟩ => by
      rcases hd with ⟨hx, _⟩ | ⟨_, he⟩
      · exact absurd hx hall
      · exact ⟨he, hb⟩))
    have hno : adjOk (N : Int) rs = false := by
      cases e : adjOk (N : Int) rs
      · rfl
      · exact absurd ((adj_iff hn hNn).1 e) hall
    have HQ := Lib.hid hno
    have H := Lib.hid (And.intro hR ha)
    clear hR ha hall hm hn hNn hK hsm hupc c4 hno
    go_enter Tryz.func7, Tryz.ntmps7
    go_upto_region 5 with (first
      | ((go_at_call 31; (with_reducible refine ((c1 _ ?_).out).mono ?_); (focus ((exact H.out.1); done)); rintro e wa ⟨gs, cs, rfl, hgs, os, hb_wa⟩; have hs_wa := hb_wa.size; (try simp at hs_wa)); have OS := Lib.hid os; clear os)
      | ((go_at_call 33; (with_reducible refine ((c2 _ ?_).out).mono ?_); (focus (exact H.out.1.below hb_wa; done)); rintro e wb ⟨g, rfl, hg_wb, ho_wb, hb_wb⟩); have hs_wb := hb_wb.size; have HO := Lib.hid ho_wb; clear ho_wb)
      | ((go_at_call 34; (with_reducible refine ((c3 _ _ ?_).out).mono ?_); (focus (exact HO.out; done)); rintro e wc ⟨g', bs, rfl, hg_wc, hb_wc⟩); have hs_wc := hb_wc.size; have HG := Lib.hid hg_wc; clear hg_wc)
      | ((go_at_call 32; (with_reducible refine ((c5 _ _ _ _ _ ?_ ?_ ?_).out).mono ?_); (focus (((exact cell_below_keep (hb_wa.trans ((hb_wb.trans (hb_wc.mono hs_wb)).mono hs_wa)) H.out.2)); done)); (focus (((exact HG.out.read)); done)); (focus (((exact (OS.out.below (hb_wb.trans (hb_wc.mono hs_wb))).ints)); done)); rintro e wd ⟨rfl, hb_wd⟩; have hs_wd := hb_wd.size; (try simp at hs_wd))))
    have hB := hb_wa.trans ((hb_wb.trans ((hb_wc.trans (hb_wd.mono hs_wc)).mono hs_wb)).mono hs_wa)
    have er := cell_below_keep hB H.out.2
    have HB := Lib.hid hB
    have hsB := hB.size
    clear hB hb_wa hb_wb hb_wc hb_wd OS HO HG c1 c2 c3 c5
    have c6 := fun w => Lib.hid (is_same a w)
    go_wp2_with (go_at_call 35; (with_reducible refine ((c6 _).out).mono ?_); rintro e w' ⟨rfl, rfl⟩)
    refine bodyPost_ret (v := .tuple #[.slice none 0 0, .bool false]) (by simp [results, Tryz.results7, go_sem]) rfl ⟨.inr ⟨HQ.out, rfl⟩, HB.out⟩
end Go.Proofs.YtoaomjchaihkaaaGreatDoor
