/-
  The reference model of traverses: which are valid, gaps, lengths.
-/
import Derived.Test.YtgncjpakclbegaaHa
import Derived.Test.YtgncjpakclbegaaYsp
import Derived.Test.YtgncjpakclbegaaSy
import Derived.Test.YtgncjpakclbegaaZo
namespace Go.Proofs.Ytgncjpakclbegaa
open Go.RowKit Poly
set_option linter.unusedVariables false

section
variable {p : Option Addr} {n c : Nat} {L : List P2} {w : World}
theorem sTravelValid_is {ok : Bool} (h : Ints w p (Poly.fl L)) (hn : L.length = n) (hl : n ≤ 4000000000000000000) (hok : tvV L = ok) :
    Calls Try.prog 49 #[.slice p n c] w fun e w' => e = .returned (.bool ok) ∧ Below w.heap.size w w' := by
  have H := Lib.hid (And.intro h hn)
  obtain ⟨bl, hbl⟩ : ∃ b, decide ((1 : Int) ≤ n ∧ (n : Int) ≤ 12) = b := ⟨_, rfl⟩
  have cl := fun w => Lib.hid (in_is (n : Int) 1 12 bl w hbl)
  have HK := Lib.hid (And.intro hok hbl)
  clear h hbl hok hn
  go_enter Try.func49, Try.ntmps49
  go_wp2_with fail
  go_loopw [3] (fun i wr => ∃ k : Nat, k ≤ n ∧ i = .int .i64 k ∧ Hid (∀ j, j < k → stP (cy L j) = true) ∧ Below w.heap.size w wr) (fun i _ => n - (intOf i).toNat)
  case atStart => exact ⟨0, Nat.zero_le _, rfl, Lib.hid (fun j hj => by omega), (by repeat (first | assumption | exact Below.refl _ _ | (refine below_chain ?_ (by assumption) (by first | omega | (simp <;> omega) | simp)) | (refine Below.alloc ?_ (by first | omega | (simp <;> omega) | simp) _) | (apply below_drewN) | (apply below_drew) | (refine Below.setCell ?_ (by first | omega | (simp <;> omega) | simp) _)))⟩
  case round =>
    obtain ⟨k, hk, rfl, hv, hb⟩ := hrel
    have hbs := hb.size
    by_cases hlt : k < n
    · obtain ⟨B, o, rfl, hB, c0, c1⟩ := (H.out.1.below hb).pt (i := k) (by rw [H.out.2]; exact hlt)
      by_cases hp : stP (cy L k) = true
      · have cv := fun w => Lib.hid (sstep_is (cy L k).1 (cy L k).2 true w hp)
        have hn2 : Hid (∀ j, j < k + 1 → stP (cy L j) = true) := Lib.hid (fun j hj => by
          by_cases e : j = k
          · subst e; exact hp
          · exact hv.out j (by omega))
        clear hp
        go_wp2_with ((go_at_call 99; (with_reducible refine ((cv _).out).mono ?_); rintro e wn ⟨rfl, hb_wn⟩; have hs_wn := hb_wn.size; (try simp at hs_wn)))
        go_roundw
        case rel => exact ⟨k + 1, by omega, by go_num, hn2, (by repeat (first | assumption | exact Below.refl _ _ | (refine below_chain ?_ (by assumption) (by first | omega | (simp <;> omega) | simp)) | (refine Below.alloc ?_ (by first | omega | (simp <;> omega) | simp) _) | (apply below_drewN) | (apply below_drew) | (refine Below.setCell ?_ (by first | omega | (simp <;> omega) | simp) _)))⟩
        case measure => simp [intOf]; omega
      · have hp' : stP (cy L k) = false := by simpa using hp
        have cv := fun w => Lib.hid (sstep_is (cy L k).1 (cy L k).2 false w hp')
        have hn2 : Hid (ok = false) := Lib.hid (by rw [← HK.out.1]; exact tvV_no (by rw [H.out.2]; exact hlt) hp')
        clear hp hp'
        go_wp2_with ((go_at_call 99; (with_reducible refine ((cv _).out).mono ?_); rintro e wn ⟨rfl, hb_wn⟩; have hs_wn := hb_wn.size; (try simp at hs_wn)))
        go_ret
        exact ⟨ret_bool hn2.out.symm, (by repeat (first | assumption | exact Below.refl _ _ | (refine below_chain ?_ (by assumption) (by first | omega | (simp <;> omega) | simp)) | (refine Below.alloc ?_ (by first | omega | (simp <;> omega) | simp) _) | (apply below_drewN) | (apply below_drew) | (refine Below.setCell ?_ (by first | omega | (simp <;> omega) | simp) _)))⟩
    · have e : k = n := by omega
      subst e
      have hbk : bl = ok := by
        have hn := H.out.2
        rw [← HK.out.1, ← HK.out.2]
        by_cases hh : 1 ≤ k ∧ k ≤ 12
        · rw [tvV_of (by omega) (by omega) (fun i hi => hv.out i (by omega)), decide_eq_true (by omega)]
        · rw [tvV_short (by omega), decide_eq_false (by omega)]
      subst hbk
      go_wp2_with ((go_at_call 100; (with_reducible refine ((cl _).out).mono ?_); rintro e w' ⟨rfl, rfl⟩))
      go_ret
      exact ⟨rfl, (by repeat (first | assumption | exact Below.refl _ _ | (refine below_chain ?_ (by assumption) (by first | omega | (simp <;> omega) | simp)) | (refine Below.alloc ?_ (by first | omega | (simp <;> omega) | simp) _) | (apply below_drewN) | (apply below_drew) | (refine Below.setCell ?_ (by first | omega | (simp <;> omega) | simp) _)))⟩
theorem sizeB (z v : Int) (w : World) (h0 : -1000000000000000 ≤ z) (h1 : z ≤ 1000000000000000) (hv : (z.natAbs : Int) = v) :
    Calls Try.prog 71 #[.int .i64 z] w fun e w' => e = .returned (.int .i64 v) ∧ Below w.heap.size w w' :=
  (sizeI z v w h0 h1 hv).mono (by rintro e w' ⟨h, rfl⟩; exact ⟨h, Below.refl _ _⟩)
theorem take_mapS {f : P2 → Int} {L : List P2} {a : Nat} (h : a < L.length) : (L.map f).take (a + 1) = (L.map f).take a ++ [f (cy L a)] := by
  rw [List.take_add_one, List.getElem?_map, cy_lt h]; rfl
theorem one_cellS (V : World) (n : Nat) (x : Int) (T : TypeId) (h : V.heap.size = n) : ∀ (j : Nat) (z : Int), [x][j]? = some z → (V.alloc (.cells #[.int .i64 x] T)).cell? ((⟨n, 0, none⟩ : Addr).add j) = some (.int .i64 z) := by
  subst h; intro j z hj; cases j with | zero => (injection hj with hj; subst hj; simp [go_sem, Addr.add]) | succ j => simp at hj
set_option maxHeartbeats 4000000 in
set_option maxRecDepth 100000 in
theorem sLens (h : Ints w p (Poly.fl L)) (hn : L.length = n) (hv : tvV L = true) :
    Calls Try.prog 94 #[.slice p n c] w fun e w' => ∃ g cap, e = .returned (.slice (some ⟨g, 0, none⟩) n cap) ∧ w.heap.size ≤ g ∧ Own w' g 3 1 n cap (lensT L) ∧ Below w.heap.size w w' := by
  have hlen := tvV_len hv
  rw [hn] at hlen
  have H := Lib.hid (And.intro h (And.intro hn hv))
  have H0 := Lib.hid (Own.empty w 3 1)
  clear h hn hv
  go_enter Try.func94, Try.ntmps94
  go_wp2_with fail
  go_loopw [3, 4] (fun l i wr => ∃ k g cap : Nat, k ≤ n ∧ i = .int .i64 k ∧ l = .slice (some ⟨g, 0, none⟩) k cap ∧ w.heap.size ≤ g ∧ Own wr g 3 1 k cap ((lensT L).take k) ∧ Below w.heap.size w wr) (fun _ i _ => n - (intOf i).toNat)
  case atStart => exact ⟨0, w.heap.size, 0, Nat.zero_le _, rfl, rfl, Nat.le_refl _, H0.out, (by repeat (first | assumption | exact Below.refl _ _ | (refine below_chain ?_ (by assumption) (by first | omega | (simp <;> omega) | simp)) | (refine Below.alloc ?_ (by first | omega | (simp <;> omega) | simp) _) | (apply below_drewN) | (apply below_drew) | (refine Below.setCell ?_ (by first | omega | (simp <;> omega) | simp) _)))⟩
  case round =>
    clear H0
    obtain ⟨k, g, cap, hk, rfl, rfl, hg, ho, hb⟩ := hrel
    have hbs := hb.size
    by_cases hlt : k < n
    · have hlt' : (k : Int) < (n : Int) := by omega
      have hk0 : (0 : Int) ≤ (k : Int) := by omega
      have hkL : k < L.length := by rw [H.out.2.1]; exact hlt
      obtain ⟨B, o, rfl, hB, c0', c1'⟩ := H.out.1.pt (i := k) hkL
      have c0 := (hb.cell (p := ⟨B, o + k * 2, none⟩) hB).trans c0'
      have c1 := (hb.cell (p := ⟨B, o + k * 2 + 1, none⟩) hB).trans c1'
      have hBg : some B ≠ some g := by simp; omega
      have hBr : B < wr.heap.size := by omega
      obtain ⟨b1, b2⟩ := stP_bd (tvV_at H.out.2.2 hkL)
      have HT : Hid ((lensT L).take (k + 1) = (lensT L).take k ++ [absP (cy L k)]) := Lib.hid (take_mapS hkL)
      obtain ⟨u, hu⟩ : ∃ u, ((cy L k).1.natAbs : Int) = u := ⟨_, rfl⟩
      obtain ⟨v, hv⟩ : ∃ v, ((cy L k).2.natAbs : Int) = v := ⟨_, rfl⟩
      have hab : absP (cy L k) = u + v := by unfold absP; rw [hu, hv]
      rw [hab] at HT
      have s1 := fun w => Lib.hid (sizeI (cy L k).1 u w (by omega) (by omega) hu)
      have s2 := fun w => Lib.hid (sizeI (cy L k).2 v w (by omega) (by omega) hv)
      have hu2 : 0 ≤ u ∧ u ≤ 20000 := by omega
      have hv2 : 0 ≤ v ∧ v ≤ 20000 := by omega
      have HO := Lib.hid (And.intro ho hb)
      have hlg := ho.lt
      clear ho hb hu hv hab
      go_upto_region 5 with fail
      clear c0' c1'
      go_region_held3 (fun W => W.cell? ⟨B, o + k * 2, none⟩ = some (.int .i64 (cy L k).1) ∧ W.cell? ⟨B, o + k * 2 + 1, none⟩ = some (.int .i64 (cy L k).2)) (first | (go_keep; done) | (go_split_ands; refine ⟨?_, ?_⟩; (focus (rw [hg1.cell_far _ (by simp; omega) hBg]; assumption)); (rw [hg1.cell_far _ (by simp; omega) hBg]; assumption)))
        (first | (go_at_call 71; (with_reducible refine ((s1 _).out).mono ?_); rintro e w' ⟨rfl, rfl⟩) | (go_at_call 71; (with_reducible refine ((s2 _).out).mono ?_); rintro e w' ⟨rfl, rfl⟩) | ((refine step_app _ (by rfl) _ _ _ (by rfl) 3 _ 1 8 Try.underlying46 info_int rfl (by decide) (by decide) g k cap _ (by rfl) (own_drew (HO.out.1.alloc _)) ⟨wr.heap.size, 0, none⟩ 1 1 [IntKind.i64.wrap (u + v)] (by rfl) rfl (one_cell_drew wr _ _) (by decide) (by omega) ?_; intro g1 d1 w1 hown hg1 hloc hlt1)))
      have hwr : IntKind.i64.wrap (u + v) = u + v := by rw [IntKind.wrap_i64]; omega
      rw [hwr] at hown hg1 hloc
      clear hwr
      have hz1 := hg1.size
      have hN : w.heap.size ≤ g1 ∧ Below w.heap.size w w1 := by
        refine ⟨?_, below_gr (below_dr (HO.out.2.alloc hbs _)) hg1 hg (by simp; omega)⟩
        rcases hloc with e | e
        · omega
        · simp at e; omega
      rw [← HT.out] at hown
      have HN := Lib.hid (And.intro hown hN)
      clear hown hg1 hloc hlt1 hN hz1 hBg
      go_wp2_with fail
      go_roundw
      case rel => exact ⟨k + 1, g1, d1, by omega, by go_num, rfl, HN.out.2.1, HN.out.1, HN.out.2.2⟩
      case measure => simp [intOf]; omega
    · have e : k = n := by omega
      subst e
      have HO := Lib.hid (And.intro ho hb)
      clear ho hb
      go_wp2_with fail
      go_ret
      exact ⟨g, cap, rfl, hg, by have := HO.out.1; rwa [List.take_of_length_le (by rw [lensT_len, H.out.2.1]; exact Nat.le_refl _)] at this, HO.out.2⟩
set_option maxHeartbeats 4000000 in
theorem sGap {g : P2} (h : Ints w p (Poly.fl L)) (hn : L.length = n) (hv : tvV L = true) (hg : gapT L = g) :
    Calls Try.prog 96 #[.slice p n c] w fun e w' => e = .returned (.agg #[.int .i64 g.1, .int .i64 g.2]) ∧ Below w.heap.size w w' := by
  have hlen := tvV_len hv
  rw [hn] at hlen
  have H := Lib.hid (And.intro h (And.intro hn (And.intro hv hg)))
  clear h hn hv hg
  go_enter Try.func96, Try.ntmps96
  go_wp2_with fail
  go_loopw [4] (fun i wr => ∃ (k : Nat) (s t : Int), k ≤ n ∧ i = .int .i64 k ∧ tot ((xsT L).take k) = s ∧ tot ((ysT L).take k) = t ∧ wr.cell? ⟨w.heap.size + 1, 0, none⟩ = some (.int .i64 s) ∧ wr.cell? ⟨w.heap.size + 1, 1, none⟩ = some (.int .i64 t) ∧ wr.frozen? ⟨w.heap.size + 1, 0, none⟩ = false ∧ wr.frozen? ⟨w.heap.size + 1, 1, none⟩ = false ∧ wr.cell? ⟨w.heap.size, 0, none⟩ = some (.int .i64 0) ∧ wr.cell? ⟨w.heap.size, 1, none⟩ = some (.int .i64 0) ∧ wr.frozen? ⟨w.heap.size, 0, none⟩ = false ∧ wr.frozen? ⟨w.heap.size, 1, none⟩ = false ∧ Below w.heap.size w wr) (fun i _ => n - (intOf i).toNat)
  case atStart =>
    refine ⟨0, 0, 0, Nat.zero_le _, rfl, rfl, rfl, ?_, ?_, ?_, ?_, ?_, ?_, ?_, ?_, (by repeat (first | assumption | exact Below.refl _ _ | (refine below_chain ?_ (by assumption) (by first | omega | (simp <;> omega) | simp)) | (refine Below.alloc ?_ (by first | omega | (simp <;> omega) | simp) _) | (apply below_drewN) | (apply below_drew) | (refine Below.setCell ?_ (by first | omega | (simp <;> omega) | simp) _)))⟩ <;> simp [go_sem]
  case round =>
    obtain ⟨k, s, t, hk, rfl, hs, ht, q0, q1, f0, f1, r0, r1, e0, e1, hb⟩ := hrel
    have hbs := hb.size
    have l1 := World.block_lt_of_cell? wr _ q0
    dsimp only at l1
    have l0 : w.heap.size < wr.heap.size := by omega
    by_cases hlt : k < n
    · have hlt' : (k : Int) < (n : Int) := by omega
      have hk0 : (0 : Int) ≤ (k : Int) := by omega
      have hkL : k < L.length := by rw [H.out.2.1]; exact hlt
      obtain ⟨B, o, rfl, hB, c0, c1⟩ := (H.out.1.below hb).pt (i := k) hkL
      obtain ⟨⟨b1, b2⟩, b3, b4⟩ := stP_bd (tvV_at H.out.2.2.1 hkL)
      have hs2 : tot ((xsT L).take (k + 1)) = s + (cy L k).1 := by unfold xsT at *; rw [take_mapS hkL, tot_append, hs]; simp [tot]
      have ht2 : tot ((ysT L).take (k + 1)) = t + (cy L k).2 := by unfold ysT at *; rw [take_mapS hkL, tot_append, ht]; simp [tot]
      have hsb := tot_bd (l := (xsT L).take k) (b := 20000) (fun z hz => xsT_bd H.out.2.2.1 z (List.mem_of_mem_take hz))
      have htb := tot_bd (l := (ysT L).take k) (b := 20000) (fun z hz => ysT_bd H.out.2.2.1 z (List.mem_of_mem_take hz))
      rw [hs, List.length_take] at hsb
      rw [ht, List.length_take] at htb
      have hsb1 : -240000 ≤ s ∧ s ≤ 240000 := by omega
      have htb1 : -240000 ≤ t ∧ t ≤ 240000 := by omega
      have HB := Lib.hid (And.intro hb (And.intro hs2 ht2))
      clear hb hs ht hs2 ht2 hsb htb
      obtain ⟨X, hX⟩ : ∃ X, (cy L k).1 = X := ⟨_, rfl⟩
      obtain ⟨Y, hY⟩ : ∃ Y, (cy L k).2 = Y := ⟨_, rfl⟩
      rw [hX] at HB c0 b1 b2
      rw [hY] at HB c1 b3 b4
      clear hX hY
      go_upto_region 5 with fail
      (refine wp_region_grows_tail 17 (by kernel_rfl) (by kernel_rfl) ?_; simp only [List.take_succ_cons, List.take_zero, List.drop_succ_cons, List.drop_zero]; intro W_wg hWc_wg hWs_wg hWe_wg; (repeat (go_big_quiet_step ((fail)))); with_reducible refine wpQuiet_nil ?_; clear hWe_wg hWs_wg hWc_wg W_wg; intro wg hb_wg; obtain ⟨hc_wg, hf_wg⟩ := bcell hb_wg; (try simp only [World.size_drew, World.cell?_drew, World.frozen?_drew, World.heap_drewN, World.cell?_drewN, World.frozen?_drewN] at hc_wg hf_wg); have hs_wg := hb_wg.size; (try simp at hs_wg))
      have k0 := (hc_wg _ 0 l1).trans q0
      have k1 := (hc_wg _ 1 l1).trans q1
      have kf := (hf_wg _ 0 l1).trans f0
      have kg := (hf_wg _ 1 l1).trans f1
      have m0 := (hc_wg _ 0 l0).trans r0
      have m1 := (hc_wg _ 1 l0).trans r1
      have mf := (hf_wg _ 0 l0).trans e0
      have mg := (hf_wg _ 1 l0).trans e1
      go_wp2_with fail
      refine ⟨⟨k + 1, s + X, t + Y, by omega, by go_num, HB.out.2.1, HB.out.2.2, ?_, ?_, ?_, ?_, ?_, ?_, ?_, ?_, ((HB.out.1.trans (hb_wg.mono hbs)).setCell (p := ⟨w.heap.size + 1, 0, none⟩) (by simp) _).setCell (p := ⟨w.heap.size + 1, 1, none⟩) (by simp) _⟩, by simp [intOf]; omega⟩ <;> simp [go_sem, k0, k1, kf, kg, m0, m1, mf, mg]
    · have e : k = n := by omega
      subst e
      have HB := Lib.hid hb
      have hs1 : s = g.1 := by
        rw [List.take_of_length_le (by rw [xsT_len, H.out.2.1]; exact Nat.le_refl _)] at hs
        rw [← hs, ← H.out.2.2.2]; rfl
      have ht1 : t = g.2 := by
        rw [List.take_of_length_le (by rw [ysT_len, H.out.2.1]; exact Nat.le_refl _)] at ht
        rw [← ht, ← H.out.2.2.2]; rfl
      subst hs1 ht1
      clear hb hs ht
      go_wp2_with fail
      exact bodyPost_ret (v := .agg #[.int .i64 g.1, .int .i64 g.2]) (by simp [results, Try.results96, go_sem, r0, r1]) rfl ⟨rfl, (HB.out.setCell (p := ⟨w.heap.size, 0, none⟩) (Nat.le_refl _) _).setCell (p := ⟨w.heap.size, 1, none⟩) (Nat.le_refl _) _⟩
end
end Go.Proofs.Ytgncjpakclbegaa
