/-
  For every code the law FnAdjust returns true: impl.AdjustHeights answers as the reference model does; the weighted rests balance at each node. Condition: the package's error variable holds the error that its initialiser lays (the card ties that to the program's text, pruned to the packages that the law loads); every list of bytes is taken.
-/
import Derived.Test.YtoaomjchaihkaaaDoorEl
import Derived.Test.YtoaomjchaihkaaaDoorDNs
import Derived.Test.YtoaomjchaihkaaaDoorCode
namespace Go.Proofs.YtoaomjchaihkaaaDoor.fnAdjust
open Go.ChangeShapes Go.WideShapes Go.ChangeAt Go.RowKit
set_option linter.unusedVariables false

/-- the sum at a node of the first runs' weighted rests -/
def sumA (n : Nat) (rs : List Rn) (i k : Nat) : Int := lsm (rs.take k) (fun r => rest n rs r * (r.g * inc r i))
theorem sumA_step {n : Nat} {rs : List Rn} {i k : Nat} {r : Rn} (hr : rs[k]? = some r) : sumA n rs i (k + 1) = sumA n rs i k + rest n rs r * (r.g * inc r i) := lsm_take hr _
theorem sumA_all {n m : Nat} {rs : List Rn} {i : Nat} (hin : InN (n + 1) rs) (hm : rs.length = m) (hi : i < n + 1) : sumA n rs i m = 0 := by
  unfold sumA
  rw [List.take_of_length_le (by omega)]
  have h := (hT_solves n rs).balN hin rfl hi
  unfold bal at h
  rw [← h]
  exact lsm_congr (fun r _ => by unfold rest; rw [Int.mul_comm])
theorem val_step {D A R sx sy ex ey wv : Int} {g p : Bool} (hD : D ≠ 0) (hw : -9 ≤ wv ∧ wv ≤ 9) (h1 : g = true → Quo.Val sx sy A D) (h2 : p = true → Quo.Val ex ey R D) {q s : Bool} {x xl z zl : Int}
    (hq : Quo.gOk (Quo.both ex ey wv 1) (ex * wv) (ey * 1) = q) (hx : Quo.gT (Quo.both ex ey wv 1) (ex * wv) (ey * 1) = x) (hxl : Quo.gL (Quo.both ex ey wv 1) (ex * wv) (ey * 1) = xl)
    (hs : Quo.gOk (Quo.both sx sy x xl) (sx * xl + x * sy) (sy * xl) = s) (hz : Quo.gT (Quo.both sx sy x xl) (sx * xl + x * sy) (sy * xl) = z) (hzl : Quo.gL (Quo.both sx sy x xl) (sx * xl + x * sy) (sy * xl) = zl)
    (hg : g = true) (hp : p = true) (hq1 : q = true) (hs1 : s = true) : Quo.Val z zl (A + R * wv) D := by
  have v1 := h2 hp
  have v2 := Quo.Val.whole (x := wv) (D := 1) (by omega) (by omega) (by omega)
  have a := v1.times v2
  have hq2 : Quo.qO (R * (wv * 1)) (D * 1) = true := by rw [← a.1, hq]; exact hq1
  have e := a.2.1 hq2
  have hD1 : D * 1 ≠ 0 := by rw [Int.mul_one]; exact hD
  have vx : Quo.Val x xl (R * wv) D := by
    rw [← hx, ← hxl, e.1, e.2]
    exact (Quo.Val.of hD1 hq2).to hD (by rw [Int.mul_one, Int.mul_one])
  have b := (h1 hg).add vx
  have hs2 : Quo.qO (A + R * wv) D = true := by rw [← b.1, hs]; exact hs1
  have e2 := b.2.1 hs2
  rw [← hz, ← hzl, e2.1, e2.2]
  exact Quo.Val.of hD hs2
theorem rest_val {n : Nat} {rs : List Rn} {r : Rn} (hD : dT n rs ≠ 0) (h : rsB n rs r = true) : Quo.Val (rsT n rs r) (rsL n rs r) (rest n rs r) (dT n rs) := by
  obtain ⟨hq1, hq2⟩ : Quo.qO (hT n rs r.t.toNat - hT n rs r.f.toNat) (dT n rs) = true ∧ Quo.qO (rest n rs r) (dT n rs) = true := by
    unfold rsB at h; simpa using h
  have hT1 : rsT n rs r = Quo.T (rest n rs r) (dT n rs) := by unfold rsT vT; rw [if_pos hq1, if_pos hq2]
  have hL1 : rsL n rs r = Quo.L (rest n rs r) (dT n rs) := by unfold rsL vL; rw [if_pos hq1, if_pos hq2]
  rw [hT1, hL1]
  exact Quo.Val.of hD hq2
theorem gen_exitA {Q : Exit → Act → World → Prop} {x : Exit} {a : Act} {W : World} (p : World → Prop) (h : p W) (k : ∀ W', p W' → Q x a W') : Q x a W := k W h
set_option maxHeartbeats 16000000 in
set_option maxRecDepth 100000 in
theorem walk (len cap : Nat) (p : Option Addr) (w : World) (hl : len ≤ 1048576) (h : Hid (Code' w (.slice p len cap))) (he : Hid (ErrV w)) :
    Calls Tryd.prog 3 #[.slice p len cap] w fun e w' => e = .returned (.bool true) ∧ Below w.heap.size w w' := by
  have hl' : ¬ (1048576 : Int) < (len : Int) := by omega
  go_enter Tryd.func3, Tryd.ntmps3
  go_upto_region 4 with (go_at_call 11; (with_reducible refine (drawAdjHeights_is _ _ h).mono ?_); rintro e wd ⟨N, m, rs, P, ⟨c, hmc, rfl⟩, ⟨hmm, ⟨hN2, hN6⟩, hm8, hns⟩, hR, hb_wd⟩; have hs_wd := hb_wd.size; have HR := Lib.hid (show RunsE _ _ _ from ⟨hR, he.out.below hb_wd⟩); have HM := Lib.hid hmm; clear hR)
  clear h hns hmm
  cases hy : adjOk (N : Int) rs
  · have c1 := fun w h => Lib.hid (iHeights_no N (some ⟨P, 0, none⟩) c m rs w h HM.out (by omega) hy)
    have c2 := fun w h => Lib.hid (sHeights_no N (some ⟨P, 0, none⟩) c m rs w h HM.out (by omega) hy)
    clear hy
    go_wp2_with (first | (go_at_call 12; (with_reducible refine ((c1 _ ?_).out).mono ?_); (focus ((exact HR.out); done)); rintro e wi ⟨⟨q, d, rfl⟩, hb_wi⟩; have hs_wi := hb_wi.size; (try simp at hs_wi)) | (go_at_call 13; (with_reducible refine ((c2 _ ?_).out).mono ?_); (focus ((exact (HR.out.below hb_wi).runs); done)); rintro e ws ⟨⟨q2, rfl⟩, hb_ws⟩; have hs_ws := hb_ws.size; (try simp at hs_ws)) | (go_at_call 14; (with_reducible refine (sameQuos_nil _ _ _ _ _).mono ?_); rintro e wt ⟨rfl, hb_wt⟩; have hs_wt := hb_wt.size; (try simp at hs_wt)))
    exact bodyPost_ret (v := .bool true) (by simp [results, Tryd.results3, go_sem]) rfl ⟨rfl, (by repeat (first | assumption | exact Below.refl _ _ | (refine below_chain ?_ (by assumption) (by first | omega | (simp <;> omega) | simp)) | (refine Below.alloc ?_ (by first | omega | (simp <;> omega) | simp) _) | (apply below_drewN) | (apply below_drew) | (refine Below.setCell ?_ (by first | omega | (simp <;> omega) | simp) _)))⟩
  · obtain ⟨n, hNn⟩ : ∃ n, N = n + 1 := ⟨N - 1, by omega⟩
    obtain ⟨hw0, hok0⟩ := adj_true hy hNn
    have hn := (whole_iff.1 hw0).1
    have hD : dT n rs ≠ 0 := by
      have := dT_pos (n := n) (rs := rs) (by rw [← hNn]; exact hw0) (by rw [← hNn]; exact hn)
      omega
    have hin : InN (n + 1) rs := by rw [← hNn]; exact nOk_in hn
    have hQ1 : (hqs n rs N).length = N := hqs_len _ _ _
    have c1 := fun w h => Lib.hid (iHeights_yes N n (some ⟨P, 0, none⟩) c m rs w h hy HM.out hNn)
    have c2 := fun w h => Lib.hid (sHeights_yes N n (some ⟨P, 0, none⟩) c m rs w h hy HM.out hNn)
    have c3 := fun (k : Nat) (r : Rn) (hr : rs[k]? = some r) w h => Lib.hid (iRest_yes N n k (some ⟨P, 0, none⟩) c m rs r w h hy HM.out hNn hr)
    have hq0 : (hqs n rs N)[0]? = some (0, 1) := by
      rw [hqs_at (by omega)]
      show some (Quo.T 0 (dT n rs), Quo.L 0 (dT n rs)) = _
      rw [(Quo.T_zero hD).1, (Quo.T_zero hD).2]
    obtain ⟨qs, hqs'⟩ : ∃ q, hqs n rs N = q := ⟨_, rfl⟩
    rw [hqs'] at c1 c2 hQ1 hq0
    have HQ := Lib.hid (And.intro hQ1 (And.intro hq0 (And.intro hD (And.intro hin (And.intro hn hNn)))))
    clear hqs' hQ1 hq0 hD hin hn hNn hy hw0 hok0
    go_upto_region 6 with (first | ((go_at_call 12; (with_reducible refine ((c1 _ ?_).out).mono ?_); (focus ((exact HR.out); done)); rintro e wi ⟨gi, ci, rfl, hgi, oi, hb_wi⟩; have hs_wi := hb_wi.size; (try simp at hs_wi)); have OI := Lib.hid oi.quos; clear oi) | ((go_at_call 13; (with_reducible refine ((c2 _ ?_).out).mono ?_); (focus ((exact (HR.out.below hb_wi).runs); done)); rintro e ws ⟨gs, cs, rfl, hgs, os, hb_ws⟩; have hs_ws := hb_ws.size; (try simp at hs_ws)); have OS := Lib.hid os.quos; clear os))
    go_upto_region 8 with ((go_at_call 14; (with_reducible refine (sameQuos_is _ _ _ _ N qs _ ?_ ?_ HQ.out.1 (by omega)).mono ?_); (focus ((exact OI.out.below hb_ws); done)); (focus ((exact OS.out); done)); rintro e wt ⟨rfl, hb_wt⟩; have hs_wt := hb_wt.size; (try simp at hs_wt)))
    have hd : Below wd.heap.size wd wt := (by repeat (first | assumption | exact Below.refl _ _ | (refine below_chain ?_ (by assumption) (by first | omega | (simp <;> omega) | simp)) | (refine Below.alloc ?_ (by first | omega | (simp <;> omega) | simp) _) | (apply below_drewN) | (apply below_drew) | (refine Below.setCell ?_ (by first | omega | (simp <;> omega) | simp) _)))
    have hBW := hb_wd.trans (hd.mono hs_wd)
    have HBW := Lib.hid hBW
    have hsW := hBW.size
    have HR2 := Lib.hid (HR.out.below hd)
    have HO2 := Lib.hid ((OI.out.below hb_ws).below hb_wt)
    clear c1 c2 HR OI OS hd hBW hb_wd hb_wi hb_ws hb_wt hgi hgs hs_wd hs_wi hs_ws hs_wt
    go_wp2_with fail
    go_loopw [9] (fun i wr => ∃ j : Nat, j ≤ N ∧ i = .int .i64 j ∧ Below wt.heap.size wt wr) (fun i _ => N - (intOf i).toNat)
    case atStart => exact ⟨0, Nat.zero_le _, rfl, Below.refl _ _⟩
    case round =>
      rename World => wr
      obtain ⟨i, hi, rfl, hbr⟩ := hrel
      have hsr := hbr.size
      have HBr := Lib.hid hbr
      clear hbr
      by_cases hlt : i < N
      · have hlt' : (i : Int) < (N : Int) := by omega
        go_upto_region 12 with ((go_at_call 15; (with_reducible refine (whole_q _ _).mono ?_); rintro e w0 ⟨rfl, hb_w0⟩; have hs_w0 := hb_w0.size; (try simp at hs_w0)))
        have hS0 := Cell2.new w0 0 1 31
        have hB0 := HBr.out.trans ((hb_w0.alloc hs_w0 (.cells #[.int .i64 0, .int .i64 1] 31)).mono hsr)
        have hSb : wt.heap.size ≤ w0.heap.size := by omega
        obtain ⟨V0, hV0⟩ : ∃ V, V = w0.alloc (.cells #[.int .i64 0, .int .i64 1] 31) := ⟨_, rfl⟩
        obtain ⟨S, hSe⟩ : ∃ S, S = w0.heap.size := ⟨_, rfl⟩
        rw [← hV0] at hS0 hB0 ⊢
        rw [← hSe] at hS0 hSb ⊢
        have H0 := Lib.hid (And.intro hS0 hB0)
        clear hS0 hB0 hV0 hSe hb_w0 hs_w0 HBr
        go_wp2_with fail
        go_loopw [11, 12] (fun g kk wq => ∃ (k : Nat) (sx sy : Int) (g0 : Bool), k ≤ m ∧ kk = .int .i64 k ∧ g = .bool g0 ∧ Cell2 wq S sx sy ∧ (g0 = true → Quo.Val sx sy (sumA n rs i k) (dT n rs)) ∧ Below wt.heap.size wt wq) (fun _ kk _ => m - (intOf kk).toNat)
        case atStart => exact ⟨0, 0, 1, true, Nat.zero_le _, rfl, rfl, H0.out.1, fun _ => (by
          show Quo.Val 0 1 0 (dT n rs)
          exact ⟨Quo.qv_whole (by omega) (by omega), HQ.out.2.2.1, by simp⟩), H0.out.2⟩
        case round =>
          clear H0
          rename World => wq
          obtain ⟨k, sx, sy, g0, hk, rfl, rfl, hS, hv, hbq⟩ := hrel
          have hsq := hbq.size
          have HB := Lib.hid (And.intro hS (And.intro hv hbq))
          clear hS hv hbq
          by_cases hkt : k < m
          · have hkt' : (k : Int) < (m : Int) := by omega
            obtain ⟨B', o', r, heq, hr, hBl, e1, e2, e3, e4⟩ := (HR2.out.below HB.out.2.2).runs.at (i := k) (by rw [HM.out]; exact hkt)
            cases heq
            rw [Nat.zero_add] at e1 e2 e3 e4
            have hro := rOk_true ((nOk_true HQ.out.2.2.2.2.1).2.2.2 k r hr)
            have c4 := fun w h => Lib.hid (c3 k r hr w h).out
            obtain ⟨a, ha⟩ : ∃ a, rsT n rs r = a := ⟨_, rfl⟩
            obtain ⟨b, hb⟩ : ∃ a, rsL n rs r = a := ⟨_, rfl⟩
            obtain ⟨pB, hpB⟩ : ∃ a, rsB n rs r = a := ⟨_, rfl⟩
            have hev : pB = true → Quo.Val a b (rest n rs r) (dT n rs) := fun h => by rw [← ha, ← hb]; exact rest_val HQ.out.2.2.1 (by rw [hpB]; exact h)
            rw [ha, hb, hpB] at c4
            have hAst := sumA_step (n := n) (i := i) hr
            obtain ⟨F, hF⟩ : ∃ F : Nat, r.f = F := ⟨r.f.toNat, by omega⟩
            obtain ⟨T, hT'⟩ : ∃ T : Nat, r.t = T := ⟨r.t.toNat, by omega⟩
            have hFT : ¬ F = T := by intro e; subst e; exact hro.2.2.2.2.1 (by omega)
            rw [hF] at e1
            rw [hT'] at e2
            have hinc : inc r i = (if i = T then 1 else 0) - (if i = F then 1 else 0) := by
              have q1 : ((T : Int) = (i : Int)) = (i = T) := propext ⟨fun h => by omega, fun h => by omega⟩
              have q2 : ((F : Int) = (i : Int)) = (i = F) := propext ⟨fun h => by omega, fun h => by omega⟩
              unfold inc; rw [hF, hT']
              simp only [q1, q2]
            have hg1 : 1 ≤ r.g := hro.2.2.2.2.2.2.2.1
            have hg9 : r.g ≤ 9 := hro.2.2.2.2.2.2.2.2
            have HX := Lib.hid (And.intro hev hAst)
            clear hev hAst ha hb hpB hF hT' hr
            go_upto_region 17 with ((go_at_call 16; (with_reducible refine ((c4 _ ?_).out).mono ?_); (focus ((exact HR2.out.below HB.out.2.2); done)); rintro e wx ⟨rfl, hb_wx⟩; have hs_wx := hb_wx.size; (try simp at hs_wx)))
            have hX1 := Cell2.new wx a b 31
            have hBx := hb_wx.alloc hs_wx (.cells #[.int .i64 a, .int .i64 b] 31)
            have d1 := cell_below_keep hBx e1
            have d2 := cell_below_keep hBx e2
            have d4 := cell_below_keep hBx e4
            obtain ⟨V, hV⟩ : ∃ V, V = wx.alloc (.cells #[.int .i64 a, .int .i64 b] 31) := ⟨_, rfl⟩
            obtain ⟨X, hXe⟩ : ∃ X, X = wx.heap.size := ⟨_, rfl⟩
            rw [← hV] at hX1 hBx d1 d2 d4 ⊢
            rw [← hXe] at hX1 ⊢
            have HV := Lib.hid (And.intro (HB.out.1.below hBx) (And.intro hX1 (HB.out.2.2.trans (hBx.mono hsq))))
            have HVL := Lib.hid HB.out.2.1
            have hsV := HV.out.2.2.size
            obtain ⟨x1, x2, x3, x4⟩ := hX1
            have hXl := World.block_lt_of_cell? V _ x1
            clear hBx hV hXe hb_wx hs_wx e1 e2 e3 e4 HB c4 hBl
            by_cases hTi : i = T
            · subst hTi
              have hFi : ¬ F = i := fun e => hFT e
              have hFi' : ¬ (F : Int) = (i : Int) := by omega
              have hwv : r.g * inc r i = r.g := by rw [hinc, if_pos rfl, if_neg (fun e => hFi e.symm)]; simp
              have hwb : -9 ≤ (r.g : Int) ∧ (r.g : Int) ≤ 9 := by omega
              have c5 := fun w => Lib.hid (iTimes_any a b (r.g) 1 w)
              obtain ⟨x, hx⟩ : ∃ x, Quo.gT (Quo.both a b (r.g) 1) (a * (r.g)) (b * 1) = x := ⟨_, rfl⟩
              obtain ⟨xl, hxl⟩ : ∃ x, Quo.gL (Quo.both a b (r.g) 1) (a * (r.g)) (b * 1) = x := ⟨_, rfl⟩
              obtain ⟨q, hq⟩ : ∃ x, Quo.gOk (Quo.both a b (r.g) 1) (a * (r.g)) (b * 1) = x := ⟨_, rfl⟩
              rw [hx, hxl, hq] at c5
              have c6 := fun w => Lib.hid (iAdd_any sx sy x xl w)
              obtain ⟨z, hz⟩ : ∃ z, Quo.gT (Quo.both sx sy x xl) (sx * xl + x * sy) (sy * xl) = z := ⟨_, rfl⟩
              obtain ⟨zl, hzl⟩ : ∃ z, Quo.gL (Quo.both sx sy x xl) (sx * xl + x * sy) (sy * xl) = z := ⟨_, rfl⟩
              obtain ⟨s, hs⟩ : ∃ z, Quo.gOk (Quo.both sx sy x xl) (sx * xl + x * sy) (sy * xl) = z := ⟨_, rfl⟩
              rw [hz, hzl, hs] at c6
              have HVS : Hid (g0 = true → pB = true → q = true → s = true → Quo.Val z zl (sumA n rs i (k + 1)) (dT n rs)) := Lib.hid (fun h1 h2 h3 h4 => by
                rw [HX.out.2, hwv]
                exact val_step HQ.out.2.2.1 hwb HVL.out HX.out.1 hq hx hxl hs hz hzl h1 h2 h3 h4)
              clear hx hxl hq hz hzl hs HX HVL hinc hwv
              go_upto_region 22 with fail
              apply ways_cell (x := x) (y := xl) (V := V)
              · intro REST
                go_region_held3 (fun W => W.cell? ⟨X, 0, none⟩ = some (.int .i64 a) ∧ W.cell? ⟨X, 1, none⟩ = some (.int .i64 b)) (first | (go_keep; done) | (refine ⟨?_, ?_⟩ <;> (first | ((with_reducible refine cell_below_keep (by with_reducible assumption) ?_); with_reducible assumption) | ((with_reducible refine cell_set_keep _ ?_ ?_); (focus (dsimp only; omega)); (with_reducible refine cell_set_keep _ ?_ ?_); (focus (dsimp only; omega)); with_reducible assumption)))) (first
                  | (go_at_call 15; (with_reducible refine (whole_q _ _).mono ?_); rintro e w1 ⟨rfl, hb_w1⟩; (first | (have hV1 : Below V.heap.size V w1 := (below_drew (Below.refl _ _)).trans hb_w1; have a0 := cell_below_keep hV1 x1; have b0 := World.block_lt_of_cell? _ _ a0; have a1 := cell_below_keep hV1 x2; have b1 := World.block_lt_of_cell? _ _ a1) | (have hV1 : Below V.heap.size V w1 := ((below_drew (Below.refl V.heap.size V)).alloc (Nat.le_refl _) (.cells #[.int .i64 0, .int .i64 0] 31)).trans (hb_w1.mono (by simp)); have a0 := cell_below_keep hV1 x1; have b0 := World.block_lt_of_cell? _ _ a0; have a1 := cell_below_keep hV1 x2; have b1 := World.block_lt_of_cell? _ _ a1; obtain ⟨y1, y2, y3, y4⟩ := (Cell2.new V.drew 0 0 31).below hb_w1)))
                  | (go_at_call 17; (with_reducible refine ((c5 _).out).mono ?_); rintro e w2 ⟨rfl, hb_w2⟩; (first | (have hY := (show Cell2 w1 V.heap.size 0 0 from ⟨y1, y2, y3, y4⟩).below hb_w2; have hV2 : Below V.heap.size V w2 := hV1.trans (hb_w2.mono hV1.size); have a0 := cell_below_keep hV2 x1; have b0 := World.block_lt_of_cell? _ _ a0; have a1 := cell_below_keep hV2 x2; have b1 := World.block_lt_of_cell? _ _ a1; obtain ⟨y1, y2, y3, y4⟩ := hY) | (have hV2 : Below V.heap.size V w2 := hV1.trans (hb_w2.mono hV1.size); have a0 := cell_below_keep hV2 x1; have b0 := World.block_lt_of_cell? _ _ a0; have a1 := cell_below_keep hV2 x2; have b1 := World.block_lt_of_cell? _ _ a1) | (have hV2 : Below V.heap.size V w2 := (hV1.alloc hV1.size (.cells #[.int .i64 0, .int .i64 0] 31)).trans (hb_w2.mono (by have := hV1.size; simp; omega)); have a0 := cell_below_keep hV2 x1; have b0 := World.block_lt_of_cell? _ _ a0; have a1 := cell_below_keep hV2 x2; have b1 := World.block_lt_of_cell? _ _ a1; obtain ⟨y1, y2, y3, y4⟩ := (Cell2.new w1 0 0 31).below hb_w2))))
                all_goals
                  first
                  | (have hYA := Cell2.new w2 x xl 31; have hBA : Below V.heap.size V (w2.alloc (.cells #[.int .i64 x, .int .i64 xl] 31)) := hV2.alloc hV2.size _; obtain ⟨Y, hYe⟩ : ∃ Y, w2.heap.size = Y := ⟨_, rfl⟩; rw [hYe] at hYA ⊢; refine gen_exitE (fun W => Cell2 W Y x xl ∧ Below V.heap.size V W) ⟨hYA, hBA⟩ (fun W hW => ?_); exact REST Y W hW.1 hW.2)
                  | (have hYA := (show Cell2 w2 V.heap.size 0 0 from ⟨y1, y2, y3, y4⟩).set x xl; have hBA : Below V.heap.size V ((w2.setCell ⟨V.heap.size, 0, none⟩ (.int .i64 x)).setCell ⟨V.heap.size, 1, none⟩ (.int .i64 xl)) := (hV2.setCell (Nat.le_refl _) _).setCell (Nat.le_refl _) _; refine gen_exitE (fun W => Cell2 W V.heap.size x xl ∧ Below V.heap.size V W) ⟨hYA, hBA⟩ (fun W hW => ?_); obtain ⟨hW1, hW2⟩ := hW; obtain ⟨Y, hYe⟩ : ∃ Y, V.heap.size = Y := ⟨_, rfl⟩; rw [hYe] at hW1 ⊢; exact REST Y W hW1 hW2)
                  | (have hYA := (show Cell2 w2 w1.heap.size 0 0 from ⟨y1, y2, y3, y4⟩).set x xl; have hBA : Below V.heap.size V ((w2.setCell ⟨w1.heap.size, 0, none⟩ (.int .i64 x)).setCell ⟨w1.heap.size, 1, none⟩ (.int .i64 xl)) := (hV2.setCell (hV1.size) _).setCell (hV1.size) _; refine gen_exitE (fun W => Cell2 W w1.heap.size x xl ∧ Below V.heap.size V W) ⟨hYA, hBA⟩ (fun W hW => ?_); obtain ⟨hW1, hW2⟩ := hW; obtain ⟨Y, hYe⟩ : ∃ Y, w1.heap.size = Y := ⟨_, rfl⟩; rw [hYe] at hW1 ⊢; exact REST Y W hW1 hW2)
              · intro Y W hY hBW
                have HW := Lib.hid (And.intro (HV.out.1.below hBW) (HV.out.2.2.trans (hBW.mono hsV)))
                have hsW' := HW.out.2.size
                obtain ⟨y1, y2, y3, y4⟩ := hY
                obtain ⟨s1, s2, s3, s4⟩ := HW.out.1
                clear hBW HV x1 x2 x3 x4 d1 d2 d4 c5 hXl
                go_upto_region 24 with ((go_at_call 18; (with_reducible refine ((c6 _).out).mono ?_); rintro e wz ⟨rfl, hb_wz⟩; have hs_wz := hb_wz.size; (try simp at hs_wz)))
                have hZ := Cell2.new wz z zl 31
                have hBz := hb_wz.alloc hs_wz (.cells #[.int .i64 z, .int .i64 zl] 31)
                have hSl := HW.out.1.lt
                obtain ⟨U, hU⟩ : ∃ U, U = wz.alloc (.cells #[.int .i64 z, .int .i64 zl] 31) := ⟨_, rfl⟩
                obtain ⟨Z, hZe⟩ : ∃ Z, Z = wz.heap.size := ⟨_, rfl⟩
                rw [← hU] at hZ hBz ⊢
                rw [← hZe] at hZ ⊢
                have hSZ : ¬ S = Z := by omega
                have hZS : ¬ Z = S := by omega
                have HU := Lib.hid (And.intro (HW.out.1.below hBz) (HW.out.2.trans (hBz.mono hsW')))
                obtain ⟨z1, z2, z3, z4⟩ := hZ
                obtain ⟨p1, p2, p3, p4⟩ := HU.out.1
                clear hBz hU hZe hb_wz hs_wz HW y1 y2 y3 y4 s1 s2 s3 s4 c6
                have HRel : Hid (∀ b : Bool, (b = true → Quo.Val z zl (sumA n rs i (k + 1)) (dT n rs)) → ∃ (k' : Nat) (sx sy : Int) (g0 : Bool), k' ≤ m ∧ Value.int .i64 ((k : Int) + 1) = .int .i64 k' ∧ Value.bool b = .bool g0 ∧ Cell2 ((U.setCell ⟨S, 0, none⟩ (.int .i64 z)).setCell ⟨S, 1, none⟩ (.int .i64 zl)) S sx sy ∧ (g0 = true → Quo.Val sx sy (sumA n rs i k') (dT n rs)) ∧ Below wt.heap.size wt ((U.setCell ⟨S, 0, none⟩ (.int .i64 z)).setCell ⟨S, 1, none⟩ (.int .i64 zl))) := Lib.hid (fun b hb =>
                  ⟨k + 1, z, zl, b, by omega, by go_num, rfl, HU.out.1.set z zl, hb, (HU.out.2.setCell (p := ⟨S, 0, none⟩) hSb _).setCell (p := ⟨S, 1, none⟩) hSb _⟩)
                cases g0
                · go_wp2_with fail
                  go_roundw
                  case rel => exact HRel.out false (fun h => by cases h)
                  case measure => simp [intOf]; omega
                · cases pB
                  · go_wp2_with fail
                    go_roundw
                    case rel => exact HRel.out false (fun h => by cases h)
                    case measure => simp [intOf]; omega
                  · cases q
                    · go_wp2_with fail
                      go_roundw
                      case rel => exact HRel.out false (fun h => by cases h)
                      case measure => simp [intOf]; omega
                    · go_wp2_with fail
                      go_roundw
                      case rel => exact HRel.out s (fun h => HVS.out rfl rfl rfl h)
                      case measure => simp [intOf]; omega
            · have hTi' : ¬ (T : Int) = (i : Int) := by omega
              by_cases hFi : i = F
              · subst hFi
                skip
                have hwv : r.g * inc r i = -r.g := by rw [hinc, if_neg hTi, if_pos rfl]; simp
                have hwb : -9 ≤ (-r.g : Int) ∧ (-r.g : Int) ≤ 9 := by omega
                have c5 := fun w => Lib.hid (iTimes_any a b (-r.g) 1 w)
                obtain ⟨x, hx⟩ : ∃ x, Quo.gT (Quo.both a b (-r.g) 1) (a * (-r.g)) (b * 1) = x := ⟨_, rfl⟩
                obtain ⟨xl, hxl⟩ : ∃ x, Quo.gL (Quo.both a b (-r.g) 1) (a * (-r.g)) (b * 1) = x := ⟨_, rfl⟩
                obtain ⟨q, hq⟩ : ∃ x, Quo.gOk (Quo.both a b (-r.g) 1) (a * (-r.g)) (b * 1) = x := ⟨_, rfl⟩
                rw [hx, hxl, hq] at c5
                have c6 := fun w => Lib.hid (iAdd_any sx sy x xl w)
                obtain ⟨z, hz⟩ : ∃ z, Quo.gT (Quo.both sx sy x xl) (sx * xl + x * sy) (sy * xl) = z := ⟨_, rfl⟩
                obtain ⟨zl, hzl⟩ : ∃ z, Quo.gL (Quo.both sx sy x xl) (sx * xl + x * sy) (sy * xl) = z := ⟨_, rfl⟩
                obtain ⟨s, hs⟩ : ∃ z, Quo.gOk (Quo.both sx sy x xl) (sx * xl + x * sy) (sy * xl) = z := ⟨_, rfl⟩
                rw [hz, hzl, hs] at c6
                have HVS : Hid (g0 = true → pB = true → q = true → s = true → Quo.Val z zl (sumA n rs i (k + 1)) (dT n rs)) := Lib.hid (fun h1 h2 h3 h4 => by
                  rw [HX.out.2, hwv]
                  exact val_step HQ.out.2.2.1 hwb HVL.out HX.out.1 hq hx hxl hs hz hzl h1 h2 h3 h4)
                clear hx hxl hq hz hzl hs HX HVL hinc hwv
                go_upto_region 22 with fail
                apply ways_cell (x := x) (y := xl) (V := V)
                · intro REST
                  go_region_held3 (fun W => W.cell? ⟨X, 0, none⟩ = some (.int .i64 a) ∧ W.cell? ⟨X, 1, none⟩ = some (.int .i64 b)) (first | (go_keep; done) | (refine ⟨?_, ?_⟩ <;> (first | ((with_reducible refine cell_below_keep (by with_reducible assumption) ?_); with_reducible assumption) | ((with_reducible refine cell_set_keep _ ?_ ?_); (focus (dsimp only; omega)); (with_reducible refine cell_set_keep _ ?_ ?_); (focus (dsimp only; omega)); with_reducible assumption)))) (first
                    | (go_at_call 15; (with_reducible refine (whole_q _ _).mono ?_); rintro e w1 ⟨rfl, hb_w1⟩; (first | (have hV1 : Below V.heap.size V w1 := (below_drew (Below.refl _ _)).trans hb_w1; have a0 := cell_below_keep hV1 x1; have b0 := World.block_lt_of_cell? _ _ a0; have a1 := cell_below_keep hV1 x2; have b1 := World.block_lt_of_cell? _ _ a1) | (have hV1 : Below V.heap.size V w1 := ((below_drew (Below.refl V.heap.size V)).alloc (Nat.le_refl _) (.cells #[.int .i64 0, .int .i64 0] 31)).trans (hb_w1.mono (by simp)); have a0 := cell_below_keep hV1 x1; have b0 := World.block_lt_of_cell? _ _ a0; have a1 := cell_below_keep hV1 x2; have b1 := World.block_lt_of_cell? _ _ a1; obtain ⟨y1, y2, y3, y4⟩ := (Cell2.new V.drew 0 0 31).below hb_w1)))
                    | (go_at_call 17; (with_reducible refine ((c5 _).out).mono ?_); rintro e w2 ⟨rfl, hb_w2⟩; (first | (have hY := (show Cell2 w1 V.heap.size 0 0 from ⟨y1, y2, y3, y4⟩).below hb_w2; have hV2 : Below V.heap.size V w2 := hV1.trans (hb_w2.mono hV1.size); have a0 := cell_below_keep hV2 x1; have b0 := World.block_lt_of_cell? _ _ a0; have a1 := cell_below_keep hV2 x2; have b1 := World.block_lt_of_cell? _ _ a1; obtain ⟨y1, y2, y3, y4⟩ := hY) | (have hV2 : Below V.heap.size V w2 := hV1.trans (hb_w2.mono hV1.size); have a0 := cell_below_keep hV2 x1; have b0 := World.block_lt_of_cell? _ _ a0; have a1 := cell_below_keep hV2 x2; have b1 := World.block_lt_of_cell? _ _ a1) | (have hV2 : Below V.heap.size V w2 := (hV1.alloc hV1.size (.cells #[.int .i64 0, .int .i64 0] 31)).trans (hb_w2.mono (by have := hV1.size; simp; omega)); have a0 := cell_below_keep hV2 x1; have b0 := World.block_lt_of_cell? _ _ a0; have a1 := cell_below_keep hV2 x2; have b1 := World.block_lt_of_cell? _ _ a1; obtain ⟨y1, y2, y3, y4⟩ := (Cell2.new w1 0 0 31).below hb_w2))))
                  all_goals
                    first
                    | (have hYA := Cell2.new w2 x xl 31; have hBA : Below V.heap.size V (w2.alloc (.cells #[.int .i64 x, .int .i64 xl] 31)) := hV2.alloc hV2.size _; obtain ⟨Y, hYe⟩ : ∃ Y, w2.heap.size = Y := ⟨_, rfl⟩; rw [hYe] at hYA ⊢; refine gen_exitE (fun W => Cell2 W Y x xl ∧ Below V.heap.size V W) ⟨hYA, hBA⟩ (fun W hW => ?_); exact REST Y W hW.1 hW.2)
                    | (have hYA := (show Cell2 w2 V.heap.size 0 0 from ⟨y1, y2, y3, y4⟩).set x xl; have hBA : Below V.heap.size V ((w2.setCell ⟨V.heap.size, 0, none⟩ (.int .i64 x)).setCell ⟨V.heap.size, 1, none⟩ (.int .i64 xl)) := (hV2.setCell (Nat.le_refl _) _).setCell (Nat.le_refl _) _; refine gen_exitE (fun W => Cell2 W V.heap.size x xl ∧ Below V.heap.size V W) ⟨hYA, hBA⟩ (fun W hW => ?_); obtain ⟨hW1, hW2⟩ := hW; obtain ⟨Y, hYe⟩ : ∃ Y, V.heap.size = Y := ⟨_, rfl⟩; rw [hYe] at hW1 ⊢; exact REST Y W hW1 hW2)
                    | (have hYA := (show Cell2 w2 w1.heap.size 0 0 from ⟨y1, y2, y3, y4⟩).set x xl; have hBA : Below V.heap.size V ((w2.setCell ⟨w1.heap.size, 0, none⟩ (.int .i64 x)).setCell ⟨w1.heap.size, 1, none⟩ (.int .i64 xl)) := (hV2.setCell (hV1.size) _).setCell (hV1.size) _; refine gen_exitE (fun W => Cell2 W w1.heap.size x xl ∧ Below V.heap.size V W) ⟨hYA, hBA⟩ (fun W hW => ?_); obtain ⟨hW1, hW2⟩ := hW; obtain ⟨Y, hYe⟩ : ∃ Y, w1.heap.size = Y := ⟨_, rfl⟩; rw [hYe] at hW1 ⊢; exact REST Y W hW1 hW2)
                · intro Y W hY hBW
                  have HW := Lib.hid (And.intro (HV.out.1.below hBW) (HV.out.2.2.trans (hBW.mono hsV)))
                  have hsW' := HW.out.2.size
                  obtain ⟨y1, y2, y3, y4⟩ := hY
                  obtain ⟨s1, s2, s3, s4⟩ := HW.out.1
                  clear hBW HV x1 x2 x3 x4 d1 d2 d4 c5 hXl
                  go_upto_region 24 with ((go_at_call 18; (with_reducible refine ((c6 _).out).mono ?_); rintro e wz ⟨rfl, hb_wz⟩; have hs_wz := hb_wz.size; (try simp at hs_wz)))
                  have hZ := Cell2.new wz z zl 31
                  have hBz := hb_wz.alloc hs_wz (.cells #[.int .i64 z, .int .i64 zl] 31)
                  have hSl := HW.out.1.lt
                  obtain ⟨U, hU⟩ : ∃ U, U = wz.alloc (.cells #[.int .i64 z, .int .i64 zl] 31) := ⟨_, rfl⟩
                  obtain ⟨Z, hZe⟩ : ∃ Z, Z = wz.heap.size := ⟨_, rfl⟩
                  rw [← hU] at hZ hBz ⊢
                  rw [← hZe] at hZ ⊢
                  have hSZ : ¬ S = Z := by omega
                  have hZS : ¬ Z = S := by omega
                  have HU := Lib.hid (And.intro (HW.out.1.below hBz) (HW.out.2.trans (hBz.mono hsW')))
                  obtain ⟨z1, z2, z3, z4⟩ := hZ
                  obtain ⟨p1, p2, p3, p4⟩ := HU.out.1
                  clear hBz hU hZe hb_wz hs_wz HW y1 y2 y3 y4 s1 s2 s3 s4 c6
                  have HRel : Hid (∀ b : Bool, (b = true → Quo.Val z zl (sumA n rs i (k + 1)) (dT n rs)) → ∃ (k' : Nat) (sx sy : Int) (g0 : Bool), k' ≤ m ∧ Value.int .i64 ((k : Int) + 1) = .int .i64 k' ∧ Value.bool b = .bool g0 ∧ Cell2 ((U.setCell ⟨S, 0, none⟩ (.int .i64 z)).setCell ⟨S, 1, none⟩ (.int .i64 zl)) S sx sy ∧ (g0 = true → Quo.Val sx sy (sumA n rs i k') (dT n rs)) ∧ Below wt.heap.size wt ((U.setCell ⟨S, 0, none⟩ (.int .i64 z)).setCell ⟨S, 1, none⟩ (.int .i64 zl))) := Lib.hid (fun b hb =>
                    ⟨k + 1, z, zl, b, by omega, by go_num, rfl, HU.out.1.set z zl, hb, (HU.out.2.setCell (p := ⟨S, 0, none⟩) hSb _).setCell (p := ⟨S, 1, none⟩) hSb _⟩)
                  cases g0
                  · go_wp2_with fail
                    go_roundw
                    case rel => exact HRel.out false (fun h => by cases h)
                    case measure => simp [intOf]; omega
                  · cases pB
                    · go_wp2_with fail
                      go_roundw
                      case rel => exact HRel.out false (fun h => by cases h)
                      case measure => simp [intOf]; omega
                    · cases q
                      · go_wp2_with fail
                        go_roundw
                        case rel => exact HRel.out false (fun h => by cases h)
                        case measure => simp [intOf]; omega
                      · go_wp2_with fail
                        go_roundw
                        case rel => exact HRel.out s (fun h => HVS.out rfl rfl rfl h)
                        case measure => simp [intOf]; omega
              · have hFi' : ¬ (F : Int) = (i : Int) := by omega
                skip
                have hwv : r.g * inc r i = 0 := by rw [hinc, if_neg hTi, if_neg hFi]; simp
                have hwb : -9 ≤ (0 : Int) ∧ (0 : Int) ≤ 9 := by omega
                have c5 := fun w => Lib.hid (iTimes_any a b (0) 1 w)
                obtain ⟨x, hx⟩ : ∃ x, Quo.gT (Quo.both a b (0) 1) (a * (0)) (b * 1) = x := ⟨_, rfl⟩
                obtain ⟨xl, hxl⟩ : ∃ x, Quo.gL (Quo.both a b (0) 1) (a * (0)) (b * 1) = x := ⟨_, rfl⟩
                obtain ⟨q, hq⟩ : ∃ x, Quo.gOk (Quo.both a b (0) 1) (a * (0)) (b * 1) = x := ⟨_, rfl⟩
                rw [hx, hxl, hq] at c5
                have c6 := fun w => Lib.hid (iAdd_any sx sy x xl w)
                obtain ⟨z, hz⟩ : ∃ z, Quo.gT (Quo.both sx sy x xl) (sx * xl + x * sy) (sy * xl) = z := ⟨_, rfl⟩
                obtain ⟨zl, hzl⟩ : ∃ z, Quo.gL (Quo.both sx sy x xl) (sx * xl + x * sy) (sy * xl) = z := ⟨_, rfl⟩
                obtain ⟨s, hs⟩ : ∃ z, Quo.gOk (Quo.both sx sy x xl) (sx * xl + x * sy) (sy * xl) = z := ⟨_, rfl⟩
                rw [hz, hzl, hs] at c6
                have HVS : Hid (g0 = true → pB = true → q = true → s = true → Quo.Val z zl (sumA n rs i (k + 1)) (dT n rs)) := Lib.hid (fun h1 h2 h3 h4 => by
                  rw [HX.out.2, hwv]
                  exact val_step HQ.out.2.2.1 hwb HVL.out HX.out.1 hq hx hxl hs hz hzl h1 h2 h3 h4)
                clear hx hxl hq hz hzl hs HX HVL hinc hwv
                go_upto_region 22 with fail
                apply ways_cell (x := x) (y := xl) (V := V)
                · intro REST
                  go_region_held3 (fun W => W.cell? ⟨X, 0, none⟩ = some (.int .i64 a) ∧ W.cell? ⟨X, 1, none⟩ = some (.int .i64 b)) (first | (go_keep; done) | (refine ⟨?_, ?_⟩ <;> (first | ((with_reducible refine cell_below_keep (by with_reducible assumption) ?_); with_reducible assumption) | ((with_reducible refine cell_set_keep _ ?_ ?_); (focus (dsimp only; omega)); (with_reducible refine cell_set_keep _ ?_ ?_); (focus (dsimp only; omega)); with_reducible assumption)))) (first
                    | (go_at_call 15; (with_reducible refine (whole_q _ _).mono ?_); rintro e w1 ⟨rfl, hb_w1⟩; (first | (have hV1 : Below V.heap.size V w1 := (below_drew (Below.refl _ _)).trans hb_w1; have a0 := cell_below_keep hV1 x1; have b0 := World.block_lt_of_cell? _ _ a0; have a1 := cell_below_keep hV1 x2; have b1 := World.block_lt_of_cell? _ _ a1) | (have hV1 : Below V.heap.size V w1 := ((below_drew (Below.refl V.heap.size V)).alloc (Nat.le_refl _) (.cells #[.int .i64 0, .int .i64 0] 31)).trans (hb_w1.mono (by simp)); have a0 := cell_below_keep hV1 x1; have b0 := World.block_lt_of_cell? _ _ a0; have a1 := cell_below_keep hV1 x2; have b1 := World.block_lt_of_cell? _ _ a1; obtain ⟨y1, y2, y3, y4⟩ := (Cell2.new V.drew 0 0 31).below hb_w1)))
                    | (go_at_call 17; (with_reducible refine ((c5 _).out).mono ?_); rintro e w2 ⟨rfl, hb_w2⟩; (first | (have hY := (show Cell2 w1 V.heap.size 0 0 from ⟨y1, y2, y3, y4⟩).below hb_w2; have hV2 : Below V.heap.size V w2 := hV1.trans (hb_w2.mono hV1.size); have a0 := cell_below_keep hV2 x1; have b0 := World.block_lt_of_cell? _ _ a0; have a1 := cell_below_keep hV2 x2; have b1 := World.block_lt_of_cell? _ _ a1; obtain ⟨y1, y2, y3, y4⟩ := hY) | (have hV2 : Below V.heap.size V w2 := hV1.trans (hb_w2.mono hV1.size); have a0 := cell_below_keep hV2 x1; have b0 := World.block_lt_of_cell? _ _ a0; have a1 := cell_below_keep hV2 x2; have b1 := World.block_lt_of_cell? _ _ a1) | (have hV2 : Below V.heap.size V w2 := (hV1.alloc hV1.size (.cells #[.int .i64 0, .int .i64 0] 31)).trans (hb_w2.mono (by have := hV1.size; simp; omega)); have a0 := cell_below_keep hV2 x1; have b0 := World.block_lt_of_cell? _ _ a0; have a1 := cell_below_keep hV2 x2; have b1 := World.block_lt_of_cell? _ _ a1; obtain ⟨y1, y2, y3, y4⟩ := (Cell2.new w1 0 0 31).below hb_w2))))
                  all_goals
                    first
                    | (have hYA := Cell2.new w2 x xl 31; have hBA : Below V.heap.size V (w2.alloc (.cells #[.int .i64 x, .int .i64 xl] 31)) := hV2.alloc hV2.size _; obtain ⟨Y, hYe⟩ : ∃ Y, w2.heap.size = Y := ⟨_, rfl⟩; rw [hYe] at hYA ⊢; refine gen_exitE (fun W => Cell2 W Y x xl ∧ Below V.heap.size V W) ⟨hYA, hBA⟩ (fun W hW => ?_); exact REST Y W hW.1 hW.2)
                    | (have hYA := (show Cell2 w2 V.heap.size 0 0 from ⟨y1, y2, y3, y4⟩).set x xl; have hBA : Below V.heap.size V ((w2.setCell ⟨V.heap.size, 0, none⟩ (.int .i64 x)).setCell ⟨V.heap.size, 1, none⟩ (.int .i64 xl)) := (hV2.setCell (Nat.le_refl _) _).setCell (Nat.le_refl _) _; refine gen_exitE (fun W => Cell2 W V.heap.size x xl ∧ Below V.heap.size V W) ⟨hYA, hBA⟩ (fun W hW => ?_); obtain ⟨hW1, hW2⟩ := hW; obtain ⟨Y, hYe⟩ : ∃ Y, V.heap.size = Y := ⟨_, rfl⟩; rw [hYe] at hW1 ⊢; exact REST Y W hW1 hW2)
                    | (have hYA := (show Cell2 w2 w1.heap.size 0 0 from ⟨y1, y2, y3, y4⟩).set x xl; have hBA : Below V.heap.size V ((w2.setCell ⟨w1.heap.size, 0, none⟩ (.int .i64 x)).setCell ⟨w1.heap.size, 1, none⟩ (.int .i64 xl)) := (hV2.setCell (hV1.size) _).setCell (hV1.size) _; refine gen_exitE (fun W => Cell2 W w1.heap.size x xl ∧ Below V.heap.size V W) ⟨hYA, hBA⟩ (fun W hW => ?_); obtain ⟨hW1, hW2⟩ := hW; obtain ⟨Y, hYe⟩ : ∃ Y, w1.heap.size = Y := ⟨_, rfl⟩; rw [hYe] at hW1 ⊢; exact REST Y W hW1 hW2)
                · intro Y W hY hBW
                  have HW := Lib.hid (And.intro (HV.out.1.below hBW) (HV.out.2.2.trans (hBW.mono hsV)))
                  have hsW' := HW.out.2.size
                  obtain ⟨y1, y2, y3, y4⟩ := hY
                  obtain ⟨s1, s2, s3, s4⟩ := HW.out.1
                  clear hBW HV x1 x2 x3 x4 d1 d2 d4 c5 hXl
                  go_upto_region 24 with ((go_at_call 18; (with_reducible refine ((c6 _).out).mono ?_); rintro e wz ⟨rfl, hb_wz⟩; have hs_wz := hb_wz.size; (try simp at hs_wz)))
                  have hZ := Cell2.new wz z zl 31
                  have hBz := hb_wz.alloc hs_wz (.cells #[.int .i64 z, .int .i64 zl] 31)
                  have hSl := HW.out.1.lt
                  obtain ⟨U, hU⟩ : ∃ U, U = wz.alloc (.cells #[.int .i64 z, .int .i64 zl] 31) := ⟨_, rfl⟩
                  obtain ⟨Z, hZe⟩ : ∃ Z, Z = wz.heap.size := ⟨_, rfl⟩
                  rw [← hU] at hZ hBz ⊢
                  rw [← hZe] at hZ ⊢
                  have hSZ : ¬ S = Z := by omega
                  have hZS : ¬ Z = S := by omega
                  have HU := Lib.hid (And.intro (HW.out.1.below hBz) (HW.out.2.trans (hBz.mono hsW')))
                  obtain ⟨z1, z2, z3, z4⟩ := hZ
                  obtain ⟨p1, p2, p3, p4⟩ := HU.out.1
                  clear hBz hU hZe hb_wz hs_wz HW y1 y2 y3 y4 s1 s2 s3 s4 c6
                  have HRel : Hid (∀ b : Bool, (b = true → Quo.Val z zl (sumA n rs i (k + 1)) (dT n rs)) → ∃ (k' : Nat) (sx sy : Int) (g0 : Bool), k' ≤ m ∧ Value.int .i64 ((k : Int) + 1) = .int .i64 k' ∧ Value.bool b = .bool g0 ∧ Cell2 ((U.setCell ⟨S, 0, none⟩ (.int .i64 z)).setCell ⟨S, 1, none⟩ (.int .i64 zl)) S sx sy ∧ (g0 = true → Quo.Val sx sy (sumA n rs i k') (dT n rs)) ∧ Below wt.heap.size wt ((U.setCell ⟨S, 0, none⟩ (.int .i64 z)).setCell ⟨S, 1, none⟩ (.int .i64 zl))) := Lib.hid (fun b hb =>
                    ⟨k + 1, z, zl, b, by omega, by go_num, rfl, HU.out.1.set z zl, hb, (HU.out.2.setCell (p := ⟨S, 0, none⟩) hSb _).setCell (p := ⟨S, 1, none⟩) hSb _⟩)
                  cases g0
                  · go_wp2_with fail
                    go_roundw
                    case rel => exact HRel.out false (fun h => by cases h)
                    case measure => simp [intOf]; omega
                  · cases pB
                    · go_wp2_with fail
                      go_roundw
                      case rel => exact HRel.out false (fun h => by cases h)
                      case measure => simp [intOf]; omega
                    · cases q
                      · go_wp2_with fail
                        go_roundw
                        case rel => exact HRel.out false (fun h => by cases h)
                        case measure => simp [intOf]; omega
                      · go_wp2_with fail
                        go_roundw
                        case rel => exact HRel.out s (fun h => HVS.out rfl rfl rfl h)
                        case measure => simp [intOf]; omega
          · have e : k = m := by omega
            subst e
            have h0 := sumA_all HQ.out.2.2.2.1 HM.out (i := i) (by have := HQ.out.2.2.2.2.2; omega)
            have hzz : g0 = true → sx = 0 ∧ sy = 1 := fun h => by
              have := HB.out.2.1 h
              rw [h0] at this
              exact Quo.zero_val this
            have HZ := Lib.hid hzz
            have HS' := Lib.hid HB.out.1
            have HBq := Lib.hid HB.out.2.2
            clear hzz h0 HB
            go_upto_region 26 with fail
            cases g0
            · first
                | go_region_with fail
                | fail
              all_goals
                go_wp2_with fail
                go_roundw
                case rel => exact ⟨i + 1, by omega, by go_num, below_drew HBq.out⟩
                case measure => simp [intOf]; omega
            · obtain ⟨rfl, rfl⟩ := HZ.out rfl
              obtain ⟨s1, s2, s3, s4⟩ := HS'.out
              clear HZ HS'
              go_region_held3 (fun W => W.cell? ⟨S, 0, none⟩ = some (.int .i64 0) ∧ W.cell? ⟨S, 1, none⟩ = some (.int .i64 1)) (first | (go_keep; done) | (refine ⟨?_, ?_⟩ <;> (first | ((with_reducible refine cell_below_keep (by with_reducible assumption) ?_); with_reducible assumption) | ((with_reducible refine cell_set_keep _ ?_ ?_); (focus (dsimp only; omega)); (with_reducible refine cell_set_keep _ ?_ ?_); (focus (dsimp only; omega)); with_reducible assumption)))) (first | (go_at_call 15; (with_reducible refine (whole_q _ _).mono ?_); rintro e w1 ⟨rfl, hb_w1⟩; have hV1 : Below wq.heap.size wq w1 := (below_drew (Below.refl _ _)).trans hb_w1; have l1 := cell_below_keep hV1 s1; have l2 := cell_below_keep hV1 s2))
              all_goals
                have HBX := Lib.hid (HBq.out.trans (hV1.mono hsq))
                go_wp2_with fail
                go_roundw
                case rel => exact ⟨i + 1, by omega, by go_num, HBX.out⟩
                case measure => simp [intOf]; omega
      · have e : i = N := by omega
        subst e
        have hB := HBW.out.trans (HBr.out.mono hsW)
        have HB := Lib.hid hB
        have hi0 : (0 : Int) < (i : Int) := by omega
        have hi0n : 0 < i := by omega
        obtain ⟨B', o', qx, he', hx, hBq, qa, qb⟩ := (HO2.out.below HBr.out).at (i := 0) (by rw [HQ.out.1]; omega)
        cases he'
        rw [HQ.out.2.1] at hx
        cases hx
        dsimp only at qa qb
        have hgil := World.block_lt_of_cell? wr _ qa
        have hsB := hB.size
        clear hB HBr HO2 hBq c3 HQ HBW HR2
        go_upto_region 28 with fail
        go_region_held3 (fun W => W.cell? ⟨gi, 0, none⟩ = some (.int .i64 0) ∧ W.cell? ⟨gi, 1, none⟩ = some (.int .i64 1)) (first | (go_keep; done) | (refine ⟨?_, ?_⟩ <;> (first | ((with_reducible refine cell_below_keep (by with_reducible assumption) ?_); with_reducible assumption) | ((with_reducible refine cell_set_keep _ ?_ ?_); (focus (dsimp only; omega)); (with_reducible refine cell_set_keep _ ?_ ?_); (focus (dsimp only; omega)); with_reducible assumption)))) (first | (go_at_call 15; (with_reducible refine (whole_q _ _).mono ?_); rintro e w1 ⟨rfl, hb_w1⟩; have hV1 : Below wr.heap.size wr w1 := (below_drew (Below.refl _ _)).trans hb_w1; have l1 := cell_below_keep hV1 qa; have l2 := cell_below_keep hV1 qb))
        all_goals
          have HBX := Lib.hid (HB.out.trans (hV1.mono hsB))
          go_wp2_with fail
          exact bodyPost_ret (v := .bool true) (by simp [results, Tryd.results3, go_sem]) rfl ⟨rfl, HBX.out⟩

end Go.Proofs.YtoaomjchaihkaaaDoor.fnAdjust
