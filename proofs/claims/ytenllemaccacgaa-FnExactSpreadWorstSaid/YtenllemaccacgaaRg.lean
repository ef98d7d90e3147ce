/-
  SpreadWorst by the reference model and by the program.
-/
import Derived.Test.YtenllemaccacgaaRf
namespace Go.Proofs.Ytenllemaccacgaa
open Go.RowKit
set_option linter.unusedVariables false

/-- the node with the greatest spread from the node 0 -/
noncomputable def wst (N : Nat) (rs : List Rn) (k : Nat) : Nat := bst (fun i => spN N rs 0 i) k
theorem wst_step {N k : Nat} {rs : List Rn} : wst N rs (k + 1) = if spN N rs 0 (wst N rs k) < spN N rs 0 k then k else wst N rs k := rfl
noncomputable def wq (N : Nat) (rs : List Rn) (i : Nat) : Int × Int := (sprT N rs 0 i, sprL N rs 0 i)
theorem wst_one {N : Nat} {rs : List Rn} : wst N rs 1 = 0 := by unfold wst; simp [bst]
theorem gix_wst {N : Nat} {rs : List Rn} (hw : nWhole (N : Int) rs = true) : ∀ k, k ≤ N → gix ((List.range N).map (wq N rs)) k = wst N rs k
  | 0, _ => rfl
  | k + 1, h => by
    have ih := gix_wst hw k (by omega)
    have hb : wst N rs k < N := by
      rcases Nat.eq_zero_or_pos k with h0 | h0
      · subst h0; show 0 < N; omega
      · have := bst_lt (f := fun i => spN N rs 0 i) h0
        unfold wst; omega
    have hx : ((List.range N).map (wq N rs))[k]? = some (wq N rs k) := by rw [List.getElem?_map, List.getElem?_range (by omega)]; rfl
    have hy : ((List.range N).map (wq N rs))[gix ((List.range N).map (wq N rs)) k]? = some (wq N rs (wst N rs k)) := by rw [ih, List.getElem?_map, List.getElem?_range hb]; rfl
    rw [gix_step hx hy, ih, wst_step]
    have e := Quo.sg_TL (a := spN N rs 0 k) (a' := spN N rs 0 (wst N rs k)) (trN_pos1 hw)
    have e2 : gtq (wq N rs k) (wq N rs (wst N rs k)) = Quo.T (spN N rs 0 k) (trN N rs) * Quo.L (spN N rs 0 (wst N rs k)) (trN N rs) - Quo.T (spN N rs 0 (wst N rs k)) (trN N rs) * Quo.L (spN N rs 0 k) (trN N rs) := rfl
    have e3 : 0 < gtq (wq N rs k) (wq N rs (wst N rs k)) ↔ spN N rs 0 (wst N rs k) < spN N rs 0 k := by
      rw [e2, ← sg_pos, e, sg_pos]; omega
    by_cases hc : spN N rs 0 (wst N rs k) < spN N rs 0 k
    · rw [if_pos (e3.2 hc), if_pos hc]
    · rw [if_neg (fun h => hc (e3.1 h)), if_neg hc]
set_option maxHeartbeats 4000000 in
set_option maxRecDepth 100000 in
theorem sWorst_yes (N : Nat) (p : Option Addr) (c m : Nat) (rs : List Rn) (w : World) (h : Runs w p rs) (hw : nWhole (N : Int) rs = true) (hm : rs.length = m) :
    Calls Try.prog 39 #[.int .i64 N, .slice p m c] w fun e w' => e = .returned (.tuple #[.int .i64 (wst N rs N), .bool true]) ∧ Below w.heap.size w w' := by
  have hn := whole_nok hw
  have hN2 : 2 ≤ N := by have := (nOk_true hn).1; omega
  have hN6 : N ≤ 6 := by have := (nOk_true hn).2.1; omega
  have hl : m ≤ 12 := by rw [← hm]; exact (nOk_true hn).2.2.1
  have c1 := fun w h => Lib.hid (sWhole_m (p := p) (c := c) w hm h (by omega) hw)
  have HW := Lib.hid (And.intro hw hm)
  have c2 := fun (i : Nat) (hi : i < N) w h => Lib.hid (by have := sSpreadOf_yes N 0 i p c m rs w h HW.out.1 HW.out.2 (by omega) hi; rw [show (((0 : Nat)) : Int) = (0 : Int) from rfl] at this; exact this)
  have hs := spr_self (i := 0) hw
  have H := Lib.hid h
  clear h hw hm hn
  go_enter Try.func39, Try.ntmps39
  go_upto_region 4 with ((go_at_call 66; (with_reducible refine ((c1 _ ?_).out).mono ?_); (focus ((exact H.out); done)); rintro e wa ⟨rfl, hb_wa⟩; have hs_wa := hb_wa.size; (try simp at hs_wa)))
  go_upto_region 5 with fail
  obtain ⟨V, M, hV, hM, hC, hBd, hMl⟩ := new_cell (Below.refl wa.heap.size wa) 0 1 27
  rw [← hV, ← hM]
  have HB := Lib.hid (hb_wa.trans (hBd.mono hs_wa))
  have HC : Hid (Cell2 V M (sprT N rs 0 (wst N rs 1)) (sprL N rs 0 (wst N rs 1))) := Lib.hid (by rw [wst_one, hs.1, hs.2]; exact hC)
  have hMw : w.heap.size ≤ M := by omega
  clear hV hM hC hBd hMl hb_wa hs_wa c1 hs
  go_wp2_with fail
  go_loopw [6, 8] (fun b i wr => ∃ j : Nat, 1 ≤ j ∧ j ≤ N ∧ i = .int .i64 j ∧ b = .int .i64 (wst N rs j) ∧ Cell2 wr M (sprT N rs 0 (wst N rs j)) (sprL N rs 0 (wst N rs j)) ∧ Below w.heap.size w wr) (fun _ i _ => N - (intOf i).toNat)
  case atStart => exact ⟨1, Nat.le_refl _, by omega, rfl, by rw [wst_one]; rfl, HC.out, HB.out⟩
  case round =>
    clear HC HB
    rename World => wr
    obtain ⟨j, hj1, hj, rfl, rfl, hC, hb⟩ := hrel
    have hbs := hb.size
    have hMl := hC.lt
    by_cases hlt : j < N
    · have hlt' : (j : Int) < (N : Int) := by omega
      have hbl : wst N rs j < N := by
        have := bst_lt (f := fun i => spN N rs 0 i) (n := j) (by omega)
        unfold wst; omega
      have c3 := c2 j hlt
      have v1 := spr_val (i := 0) (j := j) HW.out.1 (by omega) hlt
      have v2 := spr_val (i := 0) (j := wst N rs j) HW.out.1 (by omega) hbl
      have hord := order_val v1 v2 (trN_pos1 HW.out.1)
      have hst := wst_step (N := N) (k := j) (rs := rs)
      obtain ⟨g, hg⟩ : ∃ g, wst N rs j = g := ⟨_, rfl⟩
      rw [hg] at hC hord hst ⊢
      obtain ⟨xa, hxa⟩ : ∃ x, sprT N rs 0 j = x := ⟨_, rfl⟩
      obtain ⟨xb, hxb⟩ : ∃ x, sprL N rs 0 j = x := ⟨_, rfl⟩
      obtain ⟨ya, hya⟩ : ∃ x, sprT N rs 0 g = x := ⟨_, rfl⟩
      obtain ⟨yb, hyb⟩ : ∃ x, sprL N rs 0 g = x := ⟨_, rfl⟩
      rw [hxa, hxb, hya, hyb] at hord
      rw [hya, hyb] at hC
      rw [hxa, hxb] at c3
      have c4 := fun w => Lib.hid (by have := sOrder_any xa xb ya yb w; rw [hord.2, hord.1] at this; exact this)
      obtain ⟨od, hod⟩ : ∃ o, Quo.sg (spN N rs 0 j - spN N rs 0 g) = o := ⟨_, rfl⟩
      have hpos : 0 < od ↔ spN N rs 0 g < spN N rs 0 j := by rw [← hod, sg_pos]; omega
      rw [hod] at c4
      have HX := Lib.hid (And.intro hC (And.intro hb (And.intro hst (And.intro hxa (And.intro hxb (And.intro hya hyb))))))
      clear hC hb v1 v2 hord hg hxa hxb hya hyb hod hst
      go_upto_region 9 with ((go_at_call 21; (with_reducible refine ((c3 _ ?_).out).mono ?_); (focus ((exact H.out.below HX.out.2.1); done)); rintro e wi ⟨rfl, hb_wi⟩; have hs_wi := hb_wi.size; (try simp at hs_wi)))
      obtain ⟨V, X, hV, hX, hC, hBd, hXl⟩ := new_cell hb_wi xa xb 27
      rw [← hV, ← hX]
      have HV := Lib.hid (And.intro (HX.out.2.1.trans (hBd.mono hbs)) (And.intro (HX.out.1.below hBd) hC))
      have hXV := hC.lt
      have hMX : ¬ M = X := by omega
      have hXM : ¬ X = M := fun e => hMX e.symm
      obtain ⟨k1, k2, -, -⟩ := hC
      obtain ⟨m1, m2, m3, m4⟩ := HX.out.1.below hBd
      have hMV := World.block_lt_of_cell? V _ m1
      clear hV hX hBd hXl hb_wi hs_wi c3
      by_cases ho : 0 < od
      · have HE : Hid (wst N rs (j + 1) = j) := Lib.hid (by rw [HX.out.2.2.1, if_pos (hpos.1 ho)])
        go_wp2_with (go_at_call 92; (with_reducible refine ((c4 _).out).mono ?_); rintro e w2 ⟨rfl, hb_w2⟩; have s1 := cell_below_keep hb_w2 k1; have s2 := cell_below_keep hb_w2 k2; have s3 := cell_below_keep hb_w2 m1; have s4 := cell_below_keep hb_w2 m2; have s5 := frozen_below_kE hb_w2 m1 m3; have s6 := frozen_below_kE hb_w2 m2 m4)
        go_roundw
        case rel => exact ⟨j + 1, by omega, by omega, by go_num, by rw [HE.out], by rw [HE.out, HX.out.2.2.2.1, HX.out.2.2.2.2.1]; exact (HV.out.2.1.below hb_w2).set xa xb, (((HV.out.1.trans (hb_w2.mono HV.out.1.size)).setCell (p := ⟨M, 0, none⟩) hMw _).setCell (p := ⟨M, 1, none⟩) hMw _)⟩
        case measure => simp [intOf]; omega
      · have HE : Hid (wst N rs (j + 1) = g) := Lib.hid (by rw [HX.out.2.2.1, if_neg (fun h => ho (hpos.2 h))])
        have ho' : ¬ (0 : Int) < od := ho
        go_wp2_with (go_at_call 92; (with_reducible refine ((c4 _).out).mono ?_); rintro e w2 ⟨rfl, hb_w2⟩)
        go_roundw
        case rel => exact ⟨j + 1, by omega, by omega, by go_num, by rw [HE.out], by rw [HE.out, HX.out.2.2.2.2.2.1, HX.out.2.2.2.2.2.2]; exact HV.out.2.1.below hb_w2, HV.out.1.trans (hb_w2.mono HV.out.1.size)⟩
        case measure => simp [intOf]; omega
    · have e : N = j := by omega
      subst e
      have HB := Lib.hid hb
      clear hb hC
      go_wp2_with fail
      refine bodyPost_ret (v := .tuple #[.int .i64 (wst N rs N), .bool true]) (by simp [results, Try.results39, go_sem]) rfl ⟨rfl, HB.out⟩
theorem sWorst_no (n : Int) (p : Option Addr) (c m : Nat) (rs : List Rn) (w : World) (h : Runs w p rs) (hm : rs.length = m) (hl : m ≤ 4000000000000000000) (hw : nWhole n rs = false) :
    Calls Try.prog 39 #[.int .i64 n, .slice p m c] w fun e w' => e = .returned (.tuple #[.int .i64 0, .bool false]) ∧ Below w.heap.size w w' := by
  have c1 := fun w h => Lib.hid (sWhole_m (p := p) (c := c) w hm h hl hw)
  have H := Lib.hid h
  clear h hm hl hw
  go_enter Try.func39, Try.ntmps39
  go_wp2_with ((go_at_call 66; (with_reducible refine ((c1 _ ?_).out).mono ?_); (focus ((exact H.out); done)); rintro e wa ⟨rfl, hb_wa⟩; have hs_wa := hb_wa.size; (try simp at hs_wa)))
  refine bodyPost_ret (v := .tuple #[.int .i64 0, .bool false]) (by simp [results, Try.results39, go_sem]) rfl ⟨rfl, hb_wa⟩
set_option maxHeartbeats 4000000 in
set_option maxRecDepth 100000 in
theorem iWorst_yes (N : Nat) (p : Option Addr) (c m : Nat) (rs : List Rn) (w : World) (h : Runs w p rs) (hw : nWhole (N : Int) rs = true) (hm : rs.length = m) :
    Calls Try.prog 38 #[.int .i64 N, .slice p m c] w fun e w' => e = .returned (.tuple #[.int .i64 (wst N rs N), .bool true]) ∧ Below w.heap.size w w' := by
  have hn := whole_nok hw
  have hN2 : 2 ≤ N := by have := (nOk_true hn).1; omega
  have hN6 : N ≤ 6 := by have := (nOk_true hn).2.1; omega
  obtain ⟨K, hK⟩ : ∃ K, N * N = K := ⟨_, rfl⟩
  have c1 := fun w h => Lib.hid (iSpreads_yes N K p c m rs w h hw hm hK)
  obtain ⟨D, hD⟩ : ∃ D, trN N rs = D := ⟨_, rfl⟩
  have HW := Lib.hid (And.intro hw hK)
  have c2 := fun (i : Nat) (hi : i < N) g w h => Lib.hid (by have := iBetween_yes N K 0 i g p c m rs w h HW.out.1 HW.out.2 (by omega) hi; rw [show (((0 : Nat)) : Int) = (0 : Int) from rfl] at this; exact this)
  rw [hD] at c1
  rw [hD] at c2
  have c3 := fun c p w h => Lib.hid (by have := iGreatest N c p ((List.range N).map (wq N rs)) w h (by simp) (by omega) (fun x hx => by
    obtain ⟨i, hi, rfl⟩ := List.mem_map.1 hx
    have hi' := List.mem_range.1 hi
    exact (spr_val (i := 0) (j := i) HW.out.1 (by omega) hi').1); rw [gix_wst HW.out.1 N (Nat.le_refl _), decide_eq_true (show 0 < N by omega)] at this; exact this)
  have hmk := fun w => made_quosW w N (by omega)
  have H := Lib.hid h
  clear h hw hm hn hK hD
  go_enter Try.func38, Try.ntmps38
  go_upto_region 2 with ((go_at_call 64; (with_reducible refine ((c1 _ ?_).out).mono ?_); (focus ((exact H.out); done)); rintro e wa ⟨g, rfl, hg, ho, hb_wa⟩; have hs_wa := hb_wa.size; (try simp at hs_wa)))
  have h5 := Cell5.new wa (.int .i64 (N : Int)) (.slice p m c) (.int .i64 (N : Int)) (.slice (some ⟨g, 0, none⟩) K K) (.int .i64 D) 79
  have hal : Below wa.heap.size wa (wa.alloc (.cells #[.int .i64 (N : Int), .slice p m c, .int .i64 (N : Int), .slice (some ⟨g, 0, none⟩) K K, .int .i64 D] 79)) := (Below.refl _ _).alloc (Nat.le_refl _) _
  have hgl := ho.lt
  obtain ⟨V, hV⟩ : ∃ V, V = wa.alloc (.cells #[.int .i64 (N : Int), .slice p m c, .int .i64 (N : Int), .slice (some ⟨g, 0, none⟩) K K, .int .i64 D] 79) := ⟨_, rfl⟩
  obtain ⟨S, hS⟩ : ∃ S, S = wa.heap.size := ⟨_, rfl⟩
  rw [← hV] at h5 hal ⊢
  rw [← hS] at h5 hgl ⊢
  have hSw : w.heap.size ≤ S := by omega
  have HV := Lib.hid (And.intro h5 (And.intro (ho.below hal) (hb_wa.trans (hal.mono hs_wa))))
  have hSV := h5.lt
  obtain ⟨⟨m0, m1, m2, m3, m4⟩, -⟩ := h5
  clear hV hS hal ho hb_wa hs_wa c1 hg
  go_upto_region 3 with fail
  clear hmk m0 m1 m2 m3 m4
  have hO := Own.made V 27 N 2 (by decide) (by unfold maxLen; omega)
  rw [← qW_zero N (wq N rs)] at hO
  have hal : Below V.heap.size V (V.alloc (.cells (madeCells (Array.replicate 2 (.int .i64 0)) (N * 2)) 27)) := (Below.refl _ _).alloc (Nat.le_refl _) _
  obtain ⟨U, hU⟩ : ∃ U, U = V.alloc (.cells (madeCells (Array.replicate 2 (.int .i64 0)) (N * 2)) 27) := ⟨_, rfl⟩
  obtain ⟨G, hG⟩ : ∃ G, G = V.heap.size := ⟨_, rfl⟩
  rw [← hU] at hO hal ⊢
  rw [← hG] at hO hSV ⊢
  have hgG : g < G := by omega
  have HU := Lib.hid (And.intro (HV.out.1.below hal) (And.intro (HV.out.2.1.below hal) (And.intro hO (HV.out.2.2.trans (hal.mono HV.out.2.2.size)))))
  clear HV hU hG hal hO
  go_wp2_with fail
  go_loopw [20] (fun i wr => ∃ j : Nat, j ≤ N ∧ i = .int .i64 j ∧ Cell5 wr S (.int .i64 (N : Int)) (.slice p m c) (.int .i64 (N : Int)) (.slice (some ⟨g, 0, none⟩) K K) (.int .i64 D) ∧ Own wr g 3 1 K K (gr N (lap rs)) ∧ Own wr G 27 2 N N (qW N j (wq N rs)) ∧ Below w.heap.size w wr) (fun i _ => N - (intOf i).toNat)
  case atStart => exact ⟨0, Nat.zero_le _, rfl, HU.out.1, HU.out.2.1, HU.out.2.2.1, HU.out.2.2.2⟩
  case round =>
    clear HU
    rename World => wr
    obtain ⟨j, hj, rfl, h5, ho, hO, hb⟩ := hrel
    have hbs := hb.size
    have hGl := hO.lt
    by_cases hlt : j < N
    · have hlt' : (j : Int) < (N : Int) := by omega
      have c4 := c2 j hlt
      have hq : sprT N rs 0 j = (wq N rs j).1 ∧ sprL N rs 0 j = (wq N rs j).2 := ⟨rfl, rfl⟩
      obtain ⟨xa, hxa⟩ : ∃ x, (wq N rs j).1 = x := ⟨_, rfl⟩
      obtain ⟨xb, hxb⟩ : ∃ x, (wq N rs j).2 = x := ⟨_, rfl⟩
      rw [hq.1, hq.2, hxa, hxb] at c4
      have hpl := qW_len (wq N rs) hj
      obtain ⟨e1, f1⟩ := And.intro (hO.cells (i := j * 2) (List.getElem?_eq_getElem (by omega))) (hO.frozen (j * 2))
      obtain ⟨e2, f2⟩ := And.intro (hO.cells (i := j * 2 + 1) (List.getElem?_eq_getElem (by omega))) (hO.frozen (j * 2 + 1))
      obtain ⟨u1, hu1⟩ : ∃ y, (qW N j (wq N rs))[j * 2]'(by omega) = y := ⟨_, rfl⟩
      obtain ⟨u2, hu2⟩ : ∃ y, (qW N j (wq N rs))[j * 2 + 1]'(by omega) = y := ⟨_, rfl⟩
      rw [hu1] at e1
      rw [hu2] at e2
      have st := fun (W : World) (hW : Below wr.heap.size wr W) => Lib.hid (by
        have h1 := ((hO.below hW).set (j * 2) (wq N rs j).1 (by omega)).set (j * 2 + 1) (wq N rs j).2 (by simp; omega)
        rw [qW_set (wq N rs) hlt, hxa, hxb] at h1
        exact h1)
      have HX := Lib.hid (And.intro h5 (And.intro ho hb))
      obtain ⟨⟨m0, m1, m2, m3, m4⟩, -⟩ := h5
      clear ho hO hb hq hxa hxb hu1 hu2
      go_upto_region 7 with ((go_at_call 65; (with_reducible refine ((c4 _ _ ?_).out).mono ?_); (focus ((exact HX.out.2.1); done)); rintro e wi ⟨rfl, hb_wi⟩; have hs_wi := hb_wi.size; (try simp at hs_wi)))
      obtain ⟨V, X, hV, hX, hC, hBd, hXl⟩ := new_cell hb_wi xa xb 27
      rw [← hV, ← hX]
      have g1 := cell_below_keep hBd e1
      have g2 := cell_below_keep hBd e2
      have z1 := frozen_below_kE hBd e1 f1
      have z2 := frozen_below_kE hBd e2 f2
      obtain ⟨k1, k2, -, -⟩ := hC
      have hXG : ¬ X = G := by omega
      have hGX : ¬ G = X := by omega
      have ST := Lib.hid (And.intro (st V hBd).out hBd)
      have hSG : ¬ S = G := by omega
      have hgG' : ¬ g = G := by omega
      clear hV hX hBd hXl hb_wi hs_wi c4 e1 e2 f1 f2 st m0 m1 m2 m3 m4
      go_wp2_with fail
      go_roundw
      case rel =>
        have h5' := HX.out.1.below ST.out.2
        obtain ⟨⟨n0, n1, n2, n3, n4⟩, b0, b1, b2, b3, b4⟩ := h5'
        have hsk : ∀ o v, V.cell? ⟨S, o, none⟩ = some v → ((V.setCell ⟨G, j * 2, none⟩ (.int .i64 xa)).setCell ⟨G, j * 2 + 1, none⟩ (.int .i64 xb)).cell? ⟨S, o, none⟩ = some v := fun o v hv => cell_set_keep _ (by dsimp only; exact hSG) (cell_set_keep _ (by dsimp only; exact hSG) hv)
        have hsf : ∀ o, V.frozen? ⟨S, o, none⟩ = false → ((V.setCell ⟨G, j * 2, none⟩ (.int .i64 xa)).setCell ⟨G, j * 2 + 1, none⟩ (.int .i64 xb)).frozen? ⟨S, o, none⟩ = false := fun o hv => by
          have hb1 : (V.setCell ⟨G, j * 2, none⟩ (.int .i64 xa)).heap[S]? = V.heap[S]? := Deep.blk_setCell_other _ _ _ _ hSG
          have hb2 : ((V.setCell ⟨G, j * 2, none⟩ (.int .i64 xa)).setCell ⟨G, j * 2 + 1, none⟩ (.int .i64 xb)).heap[S]? = (V.setCell ⟨G, j * 2, none⟩ (.int .i64 xa)).heap[S]? := Deep.blk_setCell_other _ _ _ _ hSG
          exact (World.frozen?_of_block (a := ⟨S, o, none⟩) hb2).trans ((World.frozen?_of_block (a := ⟨S, o, none⟩) hb1).trans hv)
        exact ⟨j + 1, by omega, by go_num, ⟨⟨hsk _ _ n0, hsk _ _ n1, hsk _ _ n2, hsk _ _ n3, hsk _ _ n4⟩, hsf _ b0, hsf _ b1, hsf _ b2, hsf _ b3, hsf _ b4⟩, ((HX.out.2.1.below ST.out.2).setOther (a := ⟨G, j * 2, none⟩) hgG' _).setOther (a := ⟨G, j * 2 + 1, none⟩) hgG' _, ST.out.1, ((HX.out.2.2.trans (ST.out.2.mono hbs)).setCell (p := ⟨G, j * 2, none⟩) (show w.heap.size ≤ G by omega) _).setCell (p := ⟨G, j * 2 + 1, none⟩) (show w.heap.size ≤ G by omega) _⟩
      case measure => simp [intOf]; omega
    · have e : N = j := by omega
      subst e
      rw [qW_done] at hO
      have HX := Lib.hid (And.intro hO hb)
      clear ho hO hb h5
      go_wp2_with ((go_at_call 91; (with_reducible refine ((c3 _ _ _ ?_).out).mono ?_); (focus ((exact HX.out.1.quosW); done)); rintro e wi ⟨rfl, hb_wi⟩; have hs_wi := hb_wi.size; (try simp at hs_wi)))
      refine bodyPost_ret (v := .tuple #[.int .i64 (wst N rs N), .bool true]) (by simp [results, Try.results38, go_sem]) rfl ⟨rfl, HX.out.2.trans (hb_wi.mono hbs)⟩
theorem iWorst_no (n : Int) (p : Option Addr) (c m : Nat) (rs : List Rn) (w : World) (h : Runs w p rs) (hm : rs.length = m) (hl : m ≤ 4000000000000000000) (hw : nWhole n rs = false) :
    Calls Try.prog 38 #[.int .i64 n, .slice p m c] w fun e w' => e = .returned (.tuple #[.int .i64 0, .bool false]) ∧ Below w.heap.size w w' := by
  have c1 := fun w h => Lib.hid (iSpreads_no n p c m rs w h hm hl hw)
  have c3 := fun c p w h => Lib.hid (show Calls Try.prog 91 #[.slice p 0 c] w fun e w' => e = .returned (.tuple #[.int .i64 0, .bool false]) ∧ Below w.heap.size w w' from iGreatest 0 c p [] w h rfl (by omega) (fun x hx => by cases hx))
  have hmk := fun w => made_quosW w 0 (by omega)
  have H := Lib.hid h
  clear h hm hl hw
  go_enter Try.func38, Try.ntmps38
  go_upto_region 2 with ((go_at_call 64; (with_reducible refine ((c1 _ ?_).out).mono ?_); (focus ((exact H.out); done)); rintro e wa ⟨rfl, hb_wa⟩; have hs_wa := hb_wa.size; (try simp at hs_wa)))
  have h5 := Cell5.new wa (.int .i64 0) (.slice none 0 0) (.int .i64 0) (.slice none 0 0) (.int .i64 0) 79
  have hal : Below wa.heap.size wa (wa.alloc (.cells #[.int .i64 0, .slice none 0 0, .int .i64 0, .slice none 0 0, .int .i64 0] 79)) := (Below.refl _ _).alloc (Nat.le_refl _) _
  obtain ⟨V, hV⟩ : ∃ V, V = wa.alloc (.cells #[.int .i64 0, .slice none 0 0, .int .i64 0, .slice none 0 0, .int .i64 0] 79) := ⟨_, rfl⟩
  obtain ⟨S, hS⟩ : ∃ S, S = wa.heap.size := ⟨_, rfl⟩
  rw [← hV] at h5 hal ⊢
  rw [← hS] at h5 ⊢
  have HV := Lib.hid (hb_wa.trans (hal.mono hs_wa))
  have hSV := h5.lt
  obtain ⟨⟨m0, m1, m2, m3, m4⟩, -⟩ := h5
  have hmk0 : ∀ w : World, (Instr.makeSlice 106 (.int .i64 0) (.int .i64 0)).run Try.prog w = .ok (.slice (some ⟨w.heap.size, 0, none⟩) 0 0) (w.alloc (.cells (madeCells (Array.replicate 2 (.int .i64 0)) 0) 27)) := hmk
  clear hV hS hal hb_wa hs_wa c1 hmk
  go_upto_region 3 with fail
  clear hmk0 m0 m1 m2 m3 m4
  have hal : Below V.heap.size V (V.alloc (.cells (madeCells (Array.replicate 2 (.int .i64 0)) 0) 27)) := (Below.refl _ _).alloc (Nat.le_refl _) _
  obtain ⟨U, hU⟩ : ∃ U, U = V.alloc (.cells (madeCells (Array.replicate 2 (.int .i64 0)) 0) 27) := ⟨_, rfl⟩
  rw [← hU] at hal ⊢
  have HU := Lib.hid (HV.out.trans (hal.mono HV.out.size))
  clear hU hal
  go_wp2_with fail
  go_loopw [20] (fun i wr => i = .int .i64 0 ∧ Below w.heap.size w wr) (fun _ _ => 0)
  case atStart => exact ⟨rfl, HU.out⟩
  case round =>
    clear HU
    rename World => wr
    obtain ⟨rfl, hb⟩ := hrel
    have HB := Lib.hid hb
    have hbs := hb.size
    clear hb
    go_wp2_with ((go_at_call 91; (with_reducible refine ((c3 _ _ _ ?_).out).mono ?_); (focus ((exact .inl rfl); done)); rintro e wi ⟨rfl, hb_wi⟩; have hs_wi := hb_wi.size; (try simp at hs_wi)))
    refine bodyPost_ret (v := .tuple #[.int .i64 0, .bool false]) (by simp [results, Try.results38, go_sem]) rfl ⟨rfl, HB.out.trans (hb_wi.mono hbs)⟩
theorem bothSpreadWorst (n : Int) (rs : List Rn) (hl4 : rs.length ≤ 4000000000000000000) : ∃ (x : Int) (b : Bool), (∀ (w : World) (p : Option Addr) (c : Nat), Runs w p rs → Hid (Calls Try.prog 39 #[.int .i64 n, .slice p rs.length c] w fun e w' => e = .returned (.tuple #[.int .i64 x, .bool b]) ∧ Below w.heap.size w w')) ∧ (∀ (w : World) (p : Option Addr) (c : Nat), Runs w p rs → Hid (Calls Try.prog 38 #[.int .i64 n, .slice p rs.length c] w fun e w' => e = .returned (.tuple #[.int .i64 x, .bool b]) ∧ Below w.heap.size w w')) := by
  cases hw : nWhole n rs
  · exact ⟨0, false, fun w p c h => Lib.hid (sWorst_no n p c _ rs w h rfl hl4 hw), fun w p c h => Lib.hid (iWorst_no n p c _ rs w h rfl hl4 hw)⟩
  · obtain ⟨N, M, rfl, hNM⟩ := whole_nat hw
    exact ⟨wst N rs N, true, fun w p c h => Lib.hid (sWorst_yes N p c _ rs w h hw rfl), fun w p c h => Lib.hid (iWorst_yes N p c _ rs w h hw rfl)⟩
end Go.Proofs.Ytenllemaccacgaa
