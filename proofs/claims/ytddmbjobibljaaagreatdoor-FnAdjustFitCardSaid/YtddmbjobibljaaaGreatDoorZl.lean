/-
  The program's matrix of all nodes of a net: all its numbers in one list, row behind row.
  The program's matrix of all nodes of a net made from its runs; the matrix of the net; the matrix and the number of trees.
  The matrix of a net in the program: all but the row and the column of the node 0; the matrix and the number of trees of a net.
-/
import Derived.Test.YtddmbjobibljaaaGreatDoorZj
import Derived.Test.YtddmbjobibljaaaGreatDoorZe
import Derived.Test.YtddmbjobibljaaaGreatDoorZo
namespace Go.Proofs.YtddmbjobibljaaaGreatDoor
open Go.RowKit
set_option linter.unusedVariables false

/-- a matrix of N rows in one list -/
def gr (N : Nat) (f : Mx) : List Int := rgL (N * N) (fun q => f (q / N) (q % N))
theorem gr_len (N : Nat) (f : Mx) : (gr N f).length = N * N := rgL_len _ _
theorem pl_lt {N i j : Nat} (hi : i < N) (hj : j < N) : i * N + j < N * N := by
  have : (i + 1) * N ≤ N * N := Nat.mul_le_mul_right N hi
  rw [Nat.add_mul, Nat.one_mul] at this; omega
theorem pl_div {N i j : Nat} (hj : j < N) : (i * N + j) / N = i := by
  rw [Nat.mul_comm, Nat.mul_add_div (by omega), Nat.div_eq_of_lt hj, Nat.add_zero]
theorem pl_mod {N i j : Nat} (hj : j < N) : (i * N + j) % N = j := by
  rw [Nat.mul_comm, Nat.mul_add_mod, Nat.mod_eq_of_lt hj]
theorem gr_at {N i j : Nat} (f : Mx) (hi : i < N) (hj : j < N) : (gr N f)[i * N + j]? = some (f i j) := by
  unfold gr; rw [rgL_at _ (pl_lt hi hj), pl_div hj, pl_mod hj]
theorem gr_congr {N : Nat} {f f' : Mx} (h : ∀ i j, i < N → j < N → f i j = f' i j) : gr N f = gr N f' := by
  unfold gr
  refine rgL_congr (fun q hq => ?_)
  have h0 : 0 < N := by rcases Nat.eq_zero_or_pos N with e | e; (subst e; simp at hq); exact e
  exact h _ _ (Nat.div_lt_of_lt_mul hq) (Nat.mod_lt _ h0)
theorem gr_put {N i j : Nat} (f : Mx) (v : Int) (hi : i < N) (hj : j < N) : (gr N f).set (i * N + j) v = gr N (putF f i j v) := by
  refine List.ext_getElem? (fun q => ?_)
  rw [List.getElem?_set, gr_len]
  by_cases e : i * N + j = q
  · subst e
    rw [if_pos rfl, if_pos (pl_lt hi hj), gr_at _ hi hj]; simp [putF]
  · rw [if_neg e]
    by_cases hq : q < N * N
    · unfold gr
      rw [rgL_at _ hq, rgL_at _ hq]
      congr 1
      unfold putF
      rw [if_neg]
      rintro ⟨a, b⟩
      apply e
      have := Nat.div_add_mod q N
      rw [a, b, Nat.mul_comm] at this
      exact this
    · rw [List.getElem?_eq_none (by rw [gr_len]; omega), List.getElem?_eq_none (by rw [gr_len]; omega)]
theorem gr_zero (N : Nat) : List.replicate (N * N) (0 : Int) = gr N (lap ([] : List Rn)) := by
  refine List.ext_getElem? (fun q => ?_)
  by_cases hq : q < N * N
  · unfold gr
    rw [rgL_at _ hq, List.getElem?_replicate, if_pos hq]; rfl
  · rw [List.getElem?_eq_none (by simp; omega), List.getElem?_eq_none (by rw [gr_len]; omega)]

theorem grown_of_below {w w' : World} {g : Nat} (h : Below w.heap.size w w') : w.grownBy w' (some g) := ⟨h.os, h.tape, h.output, h.size, fun k hk _ => h.block k hk⟩
theorem iPlace (K N i j q g : Nat) (w : World) (hN : N ≤ 6) (hi : i ≤ 6) (hj : j ≤ 6) (hq : i * N + j = q) :
    Calls Tryz.prog 57 #[.agg #[.int .i64 N, .slice (some ⟨g, 0, none⟩) K K], .int .i64 i, .int .i64 j] w fun e w' => e = .returned (.int .i64 q) ∧ Below w.heap.size w w' := by
  have h1 : i * N ≤ 6 * 6 := Nat.mul_le_mul hi hN
  have h2 : (i : Int) * (N : Int) = ((i * N : Nat) : Int) := by rw [Int.natCast_mul]
  obtain ⟨P, hP⟩ : ∃ P, i * N = P := ⟨_, rfl⟩
  rw [hP] at h1 h2 hq
  have h3 : IntKind.i64.wrap ((i : Int) * (N : Int)) = (P : Int) := by rw [h2, IntKind.wrap_i64]; omega
  have h4 : IntKind.i64.wrap ((P : Int) + (j : Int)) = (q : Int) := by rw [IntKind.wrap_i64]; omega
  clear h2 hP
  go_enter Tryz.func57, Tryz.ntmps57
  go_wp2_with fail
  go_ret
  exact ⟨by first | rfl | (rw [h3]; exact ret_int h4) | (simp only [h3, h4]), (by repeat (first | assumption | exact Below.refl _ _ | (refine below_chain ?_ (by assumption) (by first | omega | (simp <;> omega) | simp)) | (refine Below.alloc ?_ (by first | omega | (simp <;> omega) | simp) _) | (apply below_drewN) | (apply below_drew) | (refine Below.setCell ?_ (by first | omega | (simp <;> omega) | simp) _)))⟩
set_option maxHeartbeats 2000000 in
set_option maxRecDepth 100000 in
theorem iAdd (K N i j g : Nat) (f : Mx) (x : Int) (w : World) (h : Own w g 3 1 K K (gr N f)) (hK : N * N = K) (hN : N ≤ 6) (hi : i < N) (hj : j < N) (hf : -1000 ≤ f i j ∧ f i j ≤ 1000) (hx : -1000 ≤ x ∧ x ≤ 1000) :
    Calls Tryz.prog 54 #[.agg #[.int .i64 N, .slice (some ⟨g, 0, none⟩) K K], .int .i64 i, .int .i64 j, .int .i64 x] w fun e w' => e = .returned (.tuple #[]) ∧ Own w' g 3 1 K K (gr N (putF f i j (f i j + x))) ∧ w.grownBy w' (some g) := by
  have hq := pl_lt hi hj
  obtain ⟨q, hqe⟩ : ∃ q, i * N + j = q := ⟨_, rfl⟩
  have hlt := h.lt
  have hqK : q < K := by omega
  have hqK' : (q : Int) < (K : Int) := by omega
  obtain ⟨z, hz⟩ : ∃ z, f i j = z := ⟨_, rfl⟩
  have hc := h.cells (gr_at f hi hj)
  rw [hqe, hz] at hc
  have hfz := h.frozen q
  have hwr : IntKind.i64.wrap (z + x) = z + x := by rw [IntKind.wrap_i64]; omega
  have H := Lib.hid (And.intro h (And.intro hqe (And.intro hz (And.intro hi hj))))
  have c1 := fun w => Lib.hid (iPlace K N i j q g w hN (by omega) (by omega) hqe)
  rw [hz]
  rw [hz] at hf
  clear h hqe hz hi hj hK hq
  go_enter Tryz.func54, Tryz.ntmps54
  go_wp2_with fail
  have hgs : ¬ g = w.heap.size := by omega
  have hsg : ¬ w.heap.size = g := by omega
  have HB0 := Lib.hid ((Below.refl w.heap.size w).alloc (Nat.le_refl _) (.cells #[.int .i64 (N : Int), .slice (some ⟨g, 0, none⟩) K K] 62))
  have r0 : (w.alloc (.cells #[.int .i64 (N : Int), .slice (some ⟨g, 0, none⟩) K K] 62)).cell? ⟨g, q, none⟩ = some (.int .i64 z) := cell_below_keep HB0.out hc
  have f0 : (w.alloc (.cells #[.int .i64 (N : Int), .slice (some ⟨g, 0, none⟩) K K] 62)).frozen? ⟨g, q, none⟩ = false := by rw [HB0.out.frozen hlt]; exact hfz
  have k0 : (w.alloc (.cells #[.int .i64 (N : Int), .slice (some ⟨g, 0, none⟩) K K] 62)).cell? ⟨w.heap.size, 0, none⟩ = some (.int .i64 (N : Int)) := by simp [go_sem]
  have k1 : (w.alloc (.cells #[.int .i64 (N : Int), .slice (some ⟨g, 0, none⟩) K K] 62)).cell? ⟨w.heap.size, 1, none⟩ = some (.slice (some ⟨g, 0, none⟩) K K) := by simp [go_sem]
  go_region_with (first | (go_at_call 57; (with_reducible refine ((c1 _).out).mono ?_); rintro e w2 ⟨rfl, hb_w2⟩; have r2 := cell_below_keep hb_w2 (cell_drew_keep r0); have f2 := frozen_below_keep hb_w2 (cell_drew_keep r0) f0; have j0 := cell_below_keep hb_w2 (cell_drew_keep k0); have j1 := cell_below_keep hb_w2 (cell_drew_keep k1)))
  all_goals
    have hl1 : w.heap.size ≤ (w.alloc (.cells #[.int .i64 (N : Int), .slice (some ⟨g, 0, none⟩) K K] 62)).heap.size := by simp
    have hB2 : Below w.heap.size w w2 := HB0.out.trans (((below_drew (Below.refl _ _)).trans hb_w2).mono hl1)
    obtain ⟨ho, hqe, hz, hi, hj⟩ := H.out
    have h2 := (ho.below hB2).set q (z + x) (by rw [ho.len]; omega)
    rw [← hqe, gr_put _ _ hi hj, hqe] at h2
    exact bodyPost_end (results_none rfl _ _ _) rfl ⟨rfl, h2, (grown_of_below hB2).trans (gb_one2 _ _ _ _)⟩
end Go.Proofs.YtddmbjobibljaaaGreatDoor
namespace Go.Proofs.YtddmbjobibljaaaGreatDoor
open Go.RowKit
set_option linter.unusedVariables false

/-- a number of a matrix added to -/
def ad (f : Mx) (i j : Nat) (x : Int) : Mx := putF f i j (f i j + x)
theorem ad_low {f : Mx} {b x : Int} (h : ∀ i j, -b ≤ f i j ∧ f i j ≤ b) (hx : -9 ≤ x ∧ x ≤ 9) (i0 j0 i j : Nat) : -(b + 9) ≤ ad f i0 j0 x i j ∧ ad f i0 j0 x i j ≤ b + 9 := by
  unfold ad putF
  have h1 := h i0 j0
  have h2 := h i j
  split <;> omega
theorem ad4 {f0 : Mx} {F T : Nat} {G : Int} (hFT : ¬ F = T) (x y : Nat) : ad (ad (ad (ad f0 F F G) T T G) F T (-G)) T F (-G) x y = f0 x y + G * (((if x = T then 1 else 0) - (if x = F then 1 else 0)) * ((if y = T then 1 else 0) - (if y = F then 1 else 0))) := by
  have h := lap_put2 (f0 := f0) (G := G) hFT x y
  rw [← h]
  have hTF : ¬ T = F := fun e => hFT e.symm
  have e1 : ad f0 F F G T T = f0 T T := by simp [ad, putF, hTF]
  have e2 : ad (ad f0 F F G) T T G F T = f0 F T := by simp [ad, putF, hTF, hFT]
  have e3 : ad (ad (ad f0 F F G) T T G) F T (-G) T F = f0 T F := by simp [ad, putF, hTF, hFT]
  show putF _ T F (ad (ad (ad f0 F F G) T T G) F T (-G) T F + -G) x y = _
  rw [e3]
  show putF (putF _ F T (ad (ad f0 F F G) T T G F T + -G)) T F _ x y = _
  rw [e2]
  show putF (putF (putF _ T T (ad f0 F F G T T + G)) F T _) T F _ x y = _
  rw [e1]
  rfl
theorem lap_stepN {rs : List Rn} {k : Nat} {r : Rn} (hr : rs[k]? = some r) (i j : Nat) : lap (rs.take (k + 1)) i j = lap (rs.take k) i j + r.g * (inc r i * inc r j) := lsm_take hr _

set_option maxHeartbeats 4000000 in
set_option maxRecDepth 100000 in
theorem iMxOf (N K : Nat) (p : Option Addr) (c m : Nat) (rs : List Rn) (w : World) (h : Runs w p rs) (hn : nOk (N : Int) rs = true) (hm : rs.length = m) (hK : N * N = K) :
    Calls Tryz.prog 25 #[.int .i64 N, .slice p m c] w fun e w' => ∃ g, e = .returned (.agg #[.int .i64 N, .slice (some ⟨g, 0, none⟩) K K]) ∧ w.heap.size ≤ g ∧ Own w' g 3 1 K K (gr N (lap rs)) ∧ Below w.heap.size w w' := by
  have hN := nOk_true hn
  have hl12 : m ≤ 12 := by rw [← hm]; exact hN.2.2.1
  have hN6 : N ≤ 6 := by have := hN.2.1; omega
  have hK36 : K ≤ 36 := by rw [← hK]; exact Nat.mul_le_mul hN6 hN6
  have hK0 : (N : Int) * (N : Int) = (K : Int) := by rw [← hK, Int.natCast_mul]
  have hwK : IntKind.i64.wrap ((N : Int) * (N : Int)) = (K : Int) := by rw [hK0, IntKind.wrap_i64]; omega
  have hmk := fun w => made_ints w K (by omega)
  have HO := fun (w : World) => Lib.hid (show Own (w.alloc (.cells (madeCells (Array.replicate 1 (.int .i64 0)) (K * 1)) 3)) w.heap.size 3 1 K K (List.replicate K 0) from by
    have ho := Own.made w 3 K 1 (by decide) (by unfold maxLen; omega)
    rw [Nat.mul_one] at ho ⊢; exact ho)
  have H := Lib.hid (And.intro h (And.intro hn (And.intro hm hK)))
  clear h hn hm hN hK
  go_enter Tryz.func25, Tryz.ntmps25
  go_wp2_with fail
  refine gen_world (fun W => Below w.heap.size w W ∧ w.heap.size + 1 + 1 < W.heap.size ∧ Own W (w.heap.size + 1) 3 1 K K (gr N (lap (rs.take 0))) ∧ W.cell? ⟨w.heap.size + 1 + 1, 0, none⟩ = some (.int .i64 (N : Int)) ∧ W.cell? ⟨w.heap.size + 1 + 1, 1, none⟩ = some (.slice (some ⟨w.heap.size + 1, 0, none⟩) K K) ∧ W.cell? ⟨w.heap.size, 0, none⟩ = some (.int .i64 0) ∧ W.cell? ⟨w.heap.size, 1, none⟩ = some (.slice none 0 0) ∧ W.frozen? ⟨w.heap.size, 0, none⟩ = false ∧ W.frozen? ⟨w.heap.size, 1, none⟩ = false) ?_ ?_
  · refine ⟨(by repeat (first | assumption | exact Below.refl _ _ | (refine below_chain ?_ (by assumption) (by first | omega | (simp <;> omega) | simp)) | (refine Below.alloc ?_ (by first | omega | (simp <;> omega) | simp) _) | (apply below_drewN) | (apply below_drew) | (refine Below.setCell ?_ (by first | omega | (simp <;> omega) | simp) _))), by simp, ?_, by simp [go_sem], by simp [go_sem], by simp [go_sem], by simp [go_sem], by simp [go_sem], by simp [go_sem]⟩
    have h1 := ((HO (w.alloc (.cells #[.int .i64 0, .slice none 0 0] 62))).out.alloc (.cells #[.int .i64 (N : Int), .slice (some ⟨w.heap.size + 1, 0, none⟩) K K] 62))
    rw [show rs.take 0 = ([] : List Rn) from rfl, ← gr_zero, H.out.2.2.2]
    simpa using h1
  · intro W hW
    obtain ⟨G, hG⟩ : ∃ G, w.heap.size + 1 = G := ⟨_, rfl⟩
    obtain ⟨M, hM⟩ : ∃ M, G + 1 = M := ⟨_, rfl⟩
    rw [hG, hM] at hW ⊢
    obtain ⟨hBW, hMl, hO, m0, m1, r0, r1, f0, f1⟩ := hW
    have hwG : ¬ w.heap.size = G := by omega
    have hMG : ¬ M = G := by omega
    have hMlt : w.heap.size < M := by omega
    have hGlt : w.heap.size < G := by omega
    clear HO hmk
    go_loopw [16] (fun i wr => ∃ k : Nat, k ≤ m ∧ i = .int .i64 k ∧ Own wr G 3 1 K K (gr N (lap (rs.take k))) ∧ W.grownBy wr (some G)) (fun i _ => m - (intOf i).toNat)
    case atStart => exact ⟨0, Nat.zero_le _, rfl, hO, World.grownBy.refl _ _⟩
    case round =>
      clear hO
      rename World => wr
      obtain ⟨k, hk, rfl, ho, hgr⟩ := hrel
      have hbr : Below w.heap.size w wr := below_gr hBW hgr (by omega) hBW.size
      have hsr := hgr.size
      have p0 := hgr.cell m0 (by simp; omega)
      have p1 := hgr.cell m1 (by simp; omega)
      by_cases hlt : k < m
      · have hlt' : (k : Int) < (m : Int) := by omega
        obtain ⟨B, o, r, rfl, hr, hB, e1, e2, e3, e4⟩ := (H.out.1.below hbr).at (i := k) (by rw [H.out.2.2.1]; exact hlt)
        have hro := rOk_true ((nOk_true H.out.2.1).2.2.2 k r hr)
        have hlow0 : ∀ i j, -(108 : Int) ≤ lap (rs.take k) i j ∧ lap (rs.take k) i j ≤ 108 := fun i j => lap_low (rs := rs.take k) (fun x hx => ⟨(ok_runs H.out.2.1 x (List.mem_of_mem_take hx)).1, (ok_runs H.out.2.1 x (List.mem_of_mem_take hx)).2.1, (ok_runs H.out.2.1 x (List.mem_of_mem_take hx)).2.2.1⟩) (by rw [List.length_take, H.out.2.2.1]; omega) i j
        obtain ⟨f0, hf0⟩ : ∃ f, lap (rs.take k) = f := ⟨_, rfl⟩
        rw [hf0] at ho hlow0
        obtain ⟨g, hg⟩ : ∃ g, r.g = g := ⟨_, rfl⟩
        have hgb : 1 ≤ g ∧ g ≤ 9 := by rw [← hg]; exact ⟨hro.2.2.2.2.2.2.2.1, hro.2.2.2.2.2.2.2.2⟩
        obtain ⟨g1, g2⟩ := hgb
        obtain ⟨F, hF⟩ : ∃ F : Nat, r.f = (F : Int) := ⟨r.f.toNat, by omega⟩
        obtain ⟨T, hT⟩ : ∃ T : Nat, r.t = (T : Int) := ⟨r.t.toNat, by omega⟩
        have hFn : F < N := by omega
        have hTn : T < N := by omega
        have hFT : ¬ F = T := by omega
        rw [hF] at e1
        rw [hT] at e2
        rw [hg] at e4
        have hst : ∀ x y, lap (rs.take (k + 1)) x y = ad (ad (ad (ad f0 F F g) T T g) F T (-g)) T F (-g) x y := fun x y => by
          rw [lap_stepN hr, hf0, hg, ad4 hFT]
          have hinc : ∀ z : Nat, inc r z = (if z = T then 1 else 0) - (if z = F then 1 else 0) := fun z => by
            unfold inc
            rw [hF, hT]
            congr 1
            · by_cases e : z = T
              · rw [if_pos e, if_pos (by omega)]
              · rw [if_neg e, if_neg (by omega)]
            · by_cases e : z = F
              · rw [if_pos e, if_pos (by omega)]
              · rw [if_neg e, if_neg (by omega)]
          rw [hinc, hinc]
        have hl1 := ad_low hlow0 (x := g) (by omega) F F
        have hl2 := ad_low hl1 (x := g) (by omega) T T
        have hl3 := ad_low hl2 (x := -g) (by omega) F T
        have hd := H.out.2.2.2
        have c1 := fun w h => Lib.hid (iAdd K N F F G f0 g w h hd hN6 hFn hFn (by have := hlow0 F F; omega) (by omega))
        have c2 := fun w h => Lib.hid (iAdd K N T T G (ad f0 F F g) g w h hd hN6 hTn hTn (by have := hl1 T T; omega) (by omega))
        have c3 := fun w h => Lib.hid (iAdd K N F T G (ad (ad f0 F F g) T T g) (-g) w h hd hN6 hFn hTn (by have := hl2 F T; omega) (by omega))
        have c4 := fun w h => Lib.hid (iAdd K N T F G (ad (ad (ad f0 F F g) T T g) F T (-g)) (-g) w h hd hN6 hTn hFn (by have := hl3 T F; omega) (by omega))
        have hgr4 : gr N (ad (ad (ad (ad f0 F F g) T T g) F T (-g)) T F (-g)) = gr N (lap (rs.take (k + 1))) := gr_congr (fun i j _ _ => (hst i j).symm)
        have HG := Lib.hid (And.intro hgr4 (And.intro hgr ho))
        have hwg : IntKind.i64.wrap (-g) = -g := by rw [IntKind.wrap_i64]; omega
        clear hst hgr4 hgr ho hlow0 hl1 hl2 hl3 hd hr hbr hf0 hg hBW H m0 m1
        go_upto_region 5 with fail
        refine gen_world (fun V => Own V G 3 1 K K (gr N f0) ∧ wr.grownBy V (some G) ∧ V.cell? ⟨M, 0, none⟩ = some (.int .i64 (N : Int)) ∧ V.cell? ⟨M, 1, none⟩ = some (.slice (some ⟨G, 0, none⟩) K K) ∧ V.cell? ⟨wr.heap.size, 0, none⟩ = some (.int .i64 (F : Int)) ∧ V.cell? ⟨wr.heap.size, 1, none⟩ = some (.int .i64 (T : Int)) ∧ V.cell? ⟨wr.heap.size, 3, none⟩ = some (.int .i64 g)) ?_ ?_
        · exact ⟨HG.out.2.2.alloc _, World.grownBy_alloc _ _ _, cell_below_keep ((Below.refl _ _).alloc (Nat.le_refl _) _) p0, cell_below_keep ((Below.refl _ _).alloc (Nat.le_refl _) _) p1, by simp [go_sem], by simp [go_sem], by simp [go_sem]⟩
        intro V hV
        obtain ⟨hoV, hgV, a0, b0, x0, y0, z0⟩ := hV
        have HO0 := Lib.hid (And.intro hoV hgV)
        obtain ⟨R, hR⟩ : ∃ R, wr.heap.size = R := ⟨_, rfl⟩
        have hRG : ¬ R = G := by omega
        rw [hR] at x0 y0 z0 ⊢
        clear hoV hgV p0 p1 e1 e2 e3 e4
        go_upto_region 6 with (go_at_call 54; (with_reducible refine ((c1 _ ?_).out).mono ?_); (focus (exact HO0.out.1; done)); rintro e w1 ⟨rfl, ho1, hg1⟩; have HO1 := Lib.hid (And.intro ho1 hg1); clear ho1 hg1)
        have a1 := HO1.out.2.cell a0 (by simp; omega)
        have b1 := HO1.out.2.cell b0 (by simp; omega)
        have x1 := HO1.out.2.cell x0 (by simp; omega)
        have y1 := HO1.out.2.cell y0 (by simp; omega)
        have z1 := HO1.out.2.cell z0 (by simp; omega)
        clear a0 b0 x0 y0 z0
        go_upto_region 7 with (go_at_call 54; (with_reducible refine ((c2 _ ?_).out).mono ?_); (focus (exact HO1.out.1; done)); rintro e w2 ⟨rfl, ho2, hg2⟩; have HO2 := Lib.hid (And.intro ho2 hg2); clear ho2 hg2)
        have a2 := HO2.out.2.cell a1 (by simp; omega)
        have b2 := HO2.out.2.cell b1 (by simp; omega)
        have x2 := HO2.out.2.cell x1 (by simp; omega)
        have y2 := HO2.out.2.cell y1 (by simp; omega)
        have z2 := HO2.out.2.cell z1 (by simp; omega)
        clear a1 b1 x1 y1 z1
        go_upto_region 8 with (go_at_call 54; (with_reducible refine ((c3 _ ?_).out).mono ?_); (focus (exact HO2.out.1; done)); rintro e w3 ⟨rfl, ho3, hg3⟩; have HO3 := Lib.hid (And.intro ho3 hg3); clear ho3 hg3)
        have a3 := HO3.out.2.cell a2 (by simp; omega)
        have b3 := HO3.out.2.cell b2 (by simp; omega)
        have x3 := HO3.out.2.cell x2 (by simp; omega)
        have y3 := HO3.out.2.cell y2 (by simp; omega)
        have z3 := HO3.out.2.cell z2 (by simp; omega)
        clear a2 b2 x2 y2 z2
        go_upto_region 9 with (go_at_call 54; (with_reducible refine ((c4 _ ?_).out).mono ?_); (focus (exact HO3.out.1; done)); rintro e w4 ⟨rfl, ho4, hg4⟩; have HO4 := Lib.hid (And.intro ho4 hg4); clear ho4 hg4)
        have hfin : W.grownBy w4 (some G) := ((((HG.out.2.1.trans HO0.out.2).trans HO1.out.2).trans HO2.out.2).trans HO3.out.2).trans HO4.out.2
        have hown : Own w4 G 3 1 K K (gr N (ad (ad (ad (ad f0 F F g) T T g) F T (-g)) T F (-g))) := HO4.out.1
        rw [HG.out.1] at hown
        have HX := Lib.hid (And.intro hown hfin)
        clear hown hfin c1 c2 c3 c4
        go_wp2_with fail
        go_roundw
        case rel => exact ⟨k + 1, by omega, by go_num, HX.out.1, HX.out.2⟩
        case measure => simp [intOf]; omega
      · have e : k = m := by omega
        subst e
        rw [List.take_of_length_le (by rw [H.out.2.2.1]; exact Nat.le_refl _)] at ho
        have q0 := hgr.cell r0 (by simp; omega)
        have q1 := hgr.cell r1 (by simp; omega)
        have g0 : wr.frozen? ⟨w.heap.size, 0, none⟩ = false := by rw [World.frozen?_of_block (hgr.block w.heap.size (by omega) (by simp; omega))]; exact f0
        have g1 : wr.frozen? ⟨w.heap.size, 1, none⟩ = false := by rw [World.frozen?_of_block (hgr.block w.heap.size (by omega) (by simp; omega))]; exact f1
        have HX := Lib.hid (And.intro ho hbr)
        clear ho hgr hbr H hBW m0 m1 r0 r1 f0 f1
        go_wp2_with fail
        refine bodyPost_ret (v := .agg #[.int .i64 (N : Int), .slice (some ⟨G, 0, none⟩) K K]) (by simp [results, Tryz.results25, go_sem, q0, q1]) rfl ⟨G, rfl, by omega, ?_, ?_⟩
        · exact (HX.out.1.setOther (a := ⟨w.heap.size, 0, none⟩) (Ne.symm hwG) _).setOther (a := ⟨w.heap.size, 1, none⟩) (Ne.symm hwG) _
        · exact (HX.out.2.setCell (Nat.le_refl _) _).setCell (Nat.le_refl _) _
end Go.Proofs.YtddmbjobibljaaaGreatDoor
namespace Go.Proofs.YtddmbjobibljaaaGreatDoor
open Go.RowKit
set_option linter.unusedVariables false

set_option maxHeartbeats 4000000 in
set_option maxRecDepth 100000 in
theorem moN (k : Nat) (b : Nat) (F : Mx) (w : World) (hk : k ≤ 5)
    (hcall : ∀ (i j : Nat) (W : World), i < k → j < k → Below w.heap.size w W → Calls Tryz.prog 56 #[.int .i64 i, .int .i64 j, .pointer (some ⟨b, 0, none⟩)] W fun e W' => e = .returned (.int .i64 (F i j)) ∧ Below W.heap.size W W') :
    Calls Tryz.prog 55 #[.int .i64 k, .func (.func 56) #[] #[.pointer (some ⟨b, 0, none⟩)]] w fun e w' => ∃ bs, e = .returned (.slice (some ⟨w.heap.size, 0, none⟩) k k) ∧ GridO w' 3 30 w.heap.size w.heap.size k bs (mkL k F) ∧ Below w.heap.size w w' := by
  have hm : ∀ w : World, (Instr.makeSlice 60 (.int .i64 (k : Int)) (.int .i64 (k : Int))).run Tryz.prog w = .ok (.slice (some ⟨w.heap.size, 0, none⟩) k k) (w.alloc (.cells (madeCells (Array.replicate 1 (.slice none 0 0)) (k * 1)) 30)) := fun w => made_rowsP w k (by omega)
  have hm2 := fun w => made_ints w k (by omega)
  have H0 := Lib.hid (GridT.made w 3 30 k (by omega))
  go_enter Tryz.func55, Tryz.ntmps55
  go_wp2_with fail
  clear hm
  go_loopw [12] (fun i wr => ∃ (j : Nat) (bs : List (Nat × Nat)), j ≤ k ∧ i = .int .i64 j ∧ GridT wr 3 30 w.heap.size w.heap.size k bs ((mkL k F).take j) ∧ Below w.heap.size w wr) (fun i _ => k - (intOf i).toNat)
  case atStart => exact ⟨0, [], Nat.zero_le _, rfl, by simpa using H0.out, (by repeat (first | assumption | exact Below.refl _ _ | (refine below_chain ?_ (by assumption) (by first | omega | (simp <;> omega) | simp)) | (refine Below.alloc ?_ (by first | omega | (simp <;> omega) | simp) _) | (apply below_drewN) | (apply below_drew) | (refine Below.setCell ?_ (by first | omega | (simp <;> omega) | simp) _)))⟩
  case round =>
    clear H0
    obtain ⟨j, bs, hj, rfl, hg, hbr⟩ := hrel
    have hbs := hbr.size
    have hlg := hg.top.lt
    by_cases hlt : j < k
    · have hlt' : (j : Int) < (k : Int) := by omega
      have htl : ((mkL k F).take j).length = j := by rw [List.length_take, mkL_len]; omega
      have hz := hg.z
      obtain ⟨v0, hv0⟩ : ∃ v, wr.cell? ⟨w.heap.size, j, none⟩ = some v := by
        have h1 := hg.top.cells (i := j) (v := .slice none 0 0) (by
          rw [List.getElem?_append_right (by rw [rowVs_len hg.len, htl]; exact Nat.le_refl _), rowVs_len hg.len, htl, Nat.sub_self, List.getElem?_replicate, if_pos (by omega)])
        exact ⟨_, h1⟩
      have hf0 := hg.top.frozen j
      have HG := Lib.hid (And.intro hg (And.intro hbr (And.intro htl hz)))
      have ho := Own.made wr 3 k 1 (by decide) (by unfold maxLen; omega)
      have h2 := (hg.below ((Below.refl _ _).alloc (Nat.le_refl _) (.cells (madeCells (Array.replicate 1 (.int .i64 0)) (k * 1)) 3))).next (r := List.replicate k 0) (b := wr.heap.size) (c := k) (by rw [htl]; exact hlt) (by rw [List.length_replicate]; rw [Nat.mul_one] at ho ⊢; exact ho) ⟨hbs, by omega⟩ (fun i b' c' hb' e => by have := hz i b' c' hb'; omega)
      rw [htl, List.length_replicate, ← prow_zero k (F j)] at h2
      have HS := Lib.hid h2
      clear hg hbr htl hz ho h2
      go_wp2_with fail
      go_loopw [25] (fun i wi => ∃ x : Nat, x ≤ k ∧ i = .int .i64 x ∧ GridT wi 3 30 w.heap.size w.heap.size k (bs ++ [(wr.heap.size, k)]) ((mkL k F).take j ++ [prow k x (F j)]) ∧ Below w.heap.size w wi) (fun i _ => k - (intOf i).toNat)
      case atStart => exact ⟨0, Nat.zero_le _, rfl, by simpa [go_sem, hlg] using HS.out, ((HG.out.2.1.setCell (Nat.le_refl _) _).alloc (by simp; omega) _)⟩
      case round =>
        clear HS hv0 hf0
        rename World => wi
        obtain ⟨x, hx, rfl, hgi, hbi⟩ := hrel
        have hlen := HG.out.1.len
        rw [HG.out.2.2.1] at hlen
        have hbsj : (bs ++ [(wr.heap.size, k)])[j]? = some (wr.heap.size, k) := by rw [List.getElem?_append_right (by omega), hlen, Nat.sub_self]; rfl
        have hLj : ((mkL k F).take j ++ [prow k x (F j)])[j]? = some (prow k x (F j)) := by rw [List.getElem?_append_right (by rw [HG.out.2.2.1]; exact Nat.le_refl _), HG.out.2.2.1, Nat.sub_self]; rfl
        have ho := hgi.row j _ _ _ hbsj hLj
        rw [prow_len _ hx] at ho
        by_cases hxk : x < k
        · have hxk' : (x : Int) < (k : Int) := by omega
          have t0 := hgi.top.cells (i := j) (v := .slice (some ⟨wr.heap.size, 0, none⟩) k k) (by
            have := rowVs_at hbsj hLj
            rw [prow_len _ hx] at this
            rw [List.getElem?_append_left (List.getElem?_eq_some_iff.1 this).1]; exact this)
          obtain ⟨z0, hz0⟩ : ∃ z, (prow k x (F j))[x]? = some z := ⟨_, List.getElem?_eq_getElem (by rw [prow_len _ hx]; exact hxk)⟩
          have r0 := ho.cells (i := x) hz0
          have f0 := ho.frozen x
          have HI := Lib.hid (And.intro hgi (And.intro hbi (And.intro ho (And.intro hbsj hLj))))
          have hli := hbi.size
          have hlw := ho.lt
          have c1 := fun W h => Lib.hid (hcall j x W hlt hxk h)
          clear hgi hbi ho hbsj hLj hz0 hlen
          go_wp2_with fail
          have hne : ¬ wr.heap.size = w.heap.size := by omega
          have hne' : ¬ w.heap.size = wr.heap.size := by omega
          go_region_held3 (fun W => W.cell? ⟨w.heap.size, j, none⟩ = some (.slice (some ⟨wr.heap.size, 0, none⟩) k k)) (first | (go_keep; done) | ((with_reducible refine cell_below_keep (by with_reducible assumption) ?_); with_reducible assumption))
            (first | (go_at_call 56; (with_reducible refine ((c1 _ ?_).out).mono ?_); (focus (first | exact HI.out.2.1 | exact below_drew HI.out.2.1; done)); rintro e w2 ⟨rfl, hb_w2⟩; have r2 := cell_below_keep hb_w2 (cell_drew_keep r0); have f2 := frozen_below_keep hb_w2 (cell_drew_keep r0) f0))
          have hB2 : Below wi.heap.size wi w2 := (below_drew (Below.refl wi.heap.size wi)).trans hb_w2
          obtain ⟨hgi, hbi, ho, hbsj, hLj⟩ := HI.out
          have ho3 := (ho.below hB2).set x (F j x) (by rw [prow_len _ hx]; exact hxk)
          rw [prow_set _ hxk] at ho3
          have h3 := (hgi.below hB2).setRow hbsj hLj (r' := prow k (x + 1) (F j)) (by rw [prow_len _ hxk, prow_len _ hx]) (by rw [prow_len _ hxk]; exact ho3) (gb_oneO _ _ _ _)
          have h4 : ((mkL k F).take j ++ [prow k x (F j)]).set j (prow k (x + 1) (F j)) = (mkL k F).take j ++ [prow k (x + 1) (F j)] := by
            rw [List.set_append_right _ _ (by rw [HG.out.2.2.1]; exact Nat.le_refl _), HG.out.2.2.1, Nat.sub_self]; rfl
          rw [h4] at h3
          have HY := Lib.hid (And.intro h3 ((hbi.trans (hB2.mono hli)).setCell (p := ⟨wr.heap.size, x, none⟩) hbs (.int .i64 (F j x))))
          clear hgi hbi ho hbsj hLj ho3 h3 h4 hB2
          go_wp2_with fail
          go_roundw
          case rel => exact ⟨x + 1, by omega, by go_num, HY.out.1, HY.out.2⟩
          case measure => simp [intOf]; omega
        · have e : x = k := by omega
          subst e
          rw [mkL_snoc hlt] at hgi
          have HX := Lib.hid (And.intro hgi hbi)
          clear hgi hbi ho hbsj hLj hlen
          go_wp2_with fail
          go_roundw
          case rel => exact ⟨j + 1, _, by omega, by go_num, HX.out.1, HX.out.2⟩
          case measure => simp [intOf]; omega
    · have e : j = k := by omega
      subst e
      rw [List.take_of_length_le (by rw [mkL_len]; omega)] at hg
      have HX := Lib.hid (And.intro (hg.done mkL_len) hbr)
      clear hg hbr
      go_wp2_with fail
      go_ret
      exact ⟨bs, rfl, HX.out.1, HX.out.2⟩
set_option maxHeartbeats 2000000 in
set_option maxRecDepth 100000 in
theorem cRows (K N n i j b g : Nat) (f : Mx) (w : World) (hc0 : w.cell? ⟨b, 0, none⟩ = some (.int .i64 (N : Int))) (hc1 : w.cell? ⟨b, 1, none⟩ = some (.slice (some ⟨g, 0, none⟩) K K)) (h : Own w g 3 1 K K (gr N f)) (hK : N * N = K) (hN : N = n + 1) (hN6 : N ≤ 6) (hi : i < n) (hj : j < n) :
    Calls Tryz.prog 56 #[.int .i64 i, .int .i64 j, .pointer (some ⟨b, 0, none⟩)] w fun e w' => e = .returned (.int .i64 (f (i + 1) (j + 1))) ∧ Below w.heap.size w w' := by
  have hi1 : i + 1 < N := by omega
  have hj1 : j + 1 < N := by omega
  have hq := pl_lt hi1 hj1
  obtain ⟨q, hqe⟩ : ∃ q, (i + 1) * N + (j + 1) = q := ⟨_, rfl⟩
  have hqK : q < K := by omega
  have hqK' : (q : Int) < (K : Int) := by omega
  obtain ⟨z, hz⟩ : ∃ z, f (i + 1) (j + 1) = z := ⟨_, rfl⟩
  have hc := h.cells (gr_at f hi1 hj1)
  rw [hqe, hz] at hc
  have hbl := World.block_lt_of_cell? w _ hc0
  have e1 : IntKind.i64.wrap ((i : Int) + 1) = ((i + 1 : Nat) : Int) := by rw [IntKind.wrap_i64]; omega
  have e2 : IntKind.i64.wrap ((j : Int) + 1) = ((j + 1 : Nat) : Int) := by rw [IntKind.wrap_i64]; omega
  have c1 := fun w => Lib.hid (by have := iPlace K N (i + 1) (j + 1) q g w hN6 (by omega) (by omega) hqe; rw [← e1, ← e2] at this; exact this)
  rw [hz]
  clear h hqe hz hK hq e1 e2 hN
  go_enter Tryz.func56, Tryz.ntmps56
  go_wp2_with fail
  go_region_held3 (fun W => W.cell? ⟨b, 0, none⟩ = some (.int .i64 (N : Int)) ∧ W.cell? ⟨b, 1, none⟩ = some (.slice (some ⟨g, 0, none⟩) K K) ∧ W.cell? ⟨g, q, none⟩ = some (.int .i64 z)) (first | (go_keep; done) | ((with_reducible refine cell_below_keep (by with_reducible assumption) ?_); with_reducible assumption))
    (first | (go_at_call 57; (with_reducible refine ((c1 _).out).mono ?_); rintro e w2 ⟨rfl, hb_w2⟩; have j0 := cell_below_keep hb_w2 (cell_drew_keep hc0); have j1 := cell_below_keep hb_w2 (cell_drew_keep hc1); have j2 := cell_below_keep hb_w2 (cell_drew_keep hc)))
  go_wp2_with fail
  go_ret
  exact ⟨rfl, (below_drew (Below.refl _ _)).trans hb_w2⟩
set_option maxHeartbeats 2000000 in
theorem iRows (K N n g : Nat) (f : Mx) (w : World) (h : Own w g 3 1 K K (gr N f)) (hK : N * N = K) (hN : N = n + 1) (hN6 : N ≤ 6) :
    Calls Tryz.prog 26 #[.agg #[.int .i64 N, .slice (some ⟨g, 0, none⟩) K K]] w (Made w n (mkL n (fun i j => f (i + 1) (j + 1)))) := by
  have hb0 := Lib.hid ((Below.refl w.heap.size w).alloc (Nat.le_refl _) (.cells #[.int .i64 (N : Int), .slice (some ⟨g, 0, none⟩) K K] 62))
  have c1 := Lib.hid (moN n w.heap.size (fun i j => f (i + 1) (j + 1)) (w.alloc (.cells #[.int .i64 (N : Int), .slice (some ⟨g, 0, none⟩) K K] 62)) (by omega) (fun i j W hi hj hBW =>
    cRows K N n i j w.heap.size g f W (cell_below_keep hBW (by simp [go_sem])) (cell_below_keep hBW (by simp [go_sem])) ((h.below hb0.out).below hBW) hK hN hN6 hi hj))
  have hn1 : (N : Int) - 1 = (n : Int) := by omega
  clear h hK hN
  go_enter Tryz.func26, Tryz.ntmps26
  go_wp2_with (go_at_call 55; (with_reducible refine (c1.out).mono ?_); rintro e w2 ⟨bs, rfl, hg_w2, hb_w2⟩; have HG := Lib.hid (And.intro hg_w2 hb_w2); clear hg_w2 hb_w2)
  go_ret
  have hl : w.heap.size ≤ (w.alloc (.cells #[.int .i64 (N : Int), .slice (some ⟨g, 0, none⟩) K K] 62)).heap.size := by simp
  exact ⟨_, bs, rfl, by have := HG.out.1.mono hl; simpa using this, hb0.out.trans (HG.out.2.mono hl)⟩
end Go.Proofs.YtddmbjobibljaaaGreatDoor
