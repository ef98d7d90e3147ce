/-
  The program's matrix of all nodes of a net: all its numbers in one list, row behind row.
  The program's matrix of all nodes of a net made from its runs; the matrix of the net; the matrix and the number of trees.
  The matrix of a net in the program: all but the row and the column of the node 0; the matrix and the number of trees of a net.
-/
import Derived.Test.YtoaomjchaihkaaaGreatDoorZj
import Derived.Test.YtoaomjchaihkaaaGreatDoorZe
import Derived.Test.YtoaomjchaihkaaaGreatDoorZo
namespace Go.Proofs.YtoaomjchaihkaaaGreatDoor
open Go.RowKit
set_option linter.unusedVariables false

/-- a matrix of N rows in one list -/
def gr (N : Nat) (f : Mx) : List Int := rgL (N * N) (fun q => f (q / N) (q % N))
theorem gr_len (N : Nat) (f : Mx) : (gr N f).length = N * N := rgL_len _ _
theorem pl_lt {N i j : Nat} (hi : i < N) (hj : j < N) : i * N + j < N * N := by
  have : (i + 1) * N ≤ N * N := Nat.mul_le_mul_right N hi
  rw [Nat.add_mul, Nat.one_mul] at this; omega
theorem pl_div {N i j : Nat} (hj : j < N) : (i * N + j) / N = i := by
  rw [Nat.mul_comm, Nat.mul_add_div (by omega), Nat.div_eq_of_lt hj, Nat.add_zero]
theorem pl_mod {N i j : Nat} (hj : j < N) : (i * N + j) % N = j := by
  rw [Nat.mul_comm, Nat.mul_add_mod, Nat.mod_eq_of_lt hj]
theorem gr_at {N i j : Nat} (f : Mx) (hi : i < N) (hj : j < N) : (gr N f)[i * N + j]? = some (f i j) := by
  unfold gr; rw [rgL_at _ (pl_lt hi hj), pl_div hj, pl_mod hj]
theorem gr_congr {N : Nat} {f f' : Mx} (h : ∀ i j, i < N → j < N → f i j = f' i j) : gr N f = gr N f' := by
  unfold gr
  refine rgL_congr (fun q hq => ?_)
  have h0 : 0 < N := by rcases Nat.eq_zero_or_pos N with e | e; (subst e; simp at hq); exact e
  exact h _ _ (Nat.div_lt_of_lt_mul hq) (Nat.mod_lt _ h0)
theorem gr_put {N i j : Nat} (f : Mx) (v : Int) (hi : i < N) (hj : j < N) : (gr N f).set (i * N + j) v = gr N (putF f i j v) := by
  refine List.ext_getElem? (fun q => ?_)
  rw [List.getElem?_set, gr_len]
  by_cases e : i * N + j = q
  · subst e
    rw [if_pos rfl, if_pos (pl_lt hi hj), gr_at _ hi hj]; simp [putF]
  · rw [if_neg e]
    by_cases hq : q < N * N
    · unfold gr
      rw [rgL_at _ hq, rgL_at _ hq]
      congr 1
      unfold putF
      rw [if_neg]
      rintro ⟨a, b⟩
      apply e
      have := Nat.div_add_mod q N
      rw [a, b, Nat.mul_comm] at this
      exact this
    · rw [List.getElem?_eq_none (by rw [gr_len]; omega), List.getElem?_eq_none (by rw [gr_len]; omega)]
theorem gr_zero (N : Nat) : List.replicate (N * N) (0 : Int) = gr N (lap ([] : List Rn)) := by
  refine List.ext_getElem? (fun q => ?_)
  by_cases hq : q < N * N
  · unfold gr
    rw [rgL_at _ hq, List.getElem?_replicate, if_pos hq]; rfl
  · rw [List.getElem?_eq_none (by simp; omega), List.getElem?_eq_none (by rw [gr_len]; omega)]

theorem grown_of_below {w w' : World} {g : Nat} (h : Below w.heap.size w w') : w.grownBy w' (some g) := ⟨h.os, h.tape, h.output, h.size, fun k hk _ => h.block k hk⟩
theorem iPlace (K N i j q g : Nat) (w : World) (hN : N ≤ 6) (hi : i ≤ 6) (hj : j ≤ 6) (hq : i * N + j = q) :
    Calls Tryz.prog 108 #[.agg #[.int .i64 N, .slice (some ⟨g, 0, none⟩) K K], .int .i64 i, .int .i64 j] w fun e w' => e = .returned (.int .i64 q) ∧ Below w.heap.size w w' := by
  have h1 : i * N ≤ 6 * 6 := Nat.mul_le_mul hi hN
  have h2 : (i : Int) * (N : Int) = ((i * N : Nat) : Int) := by rw [Int.natCast_mul]
  obtain ⟨P, hP⟩ : ∃ P, i * N = P := ⟨_, rfl⟩
  rw [hP] at h1 h2 hq
  have h3 : IntKind.i64.wrap ((i : Int) * (N : Int)) = (P : Int) := by rw [h2, IntKind.wrap_i64]; omega
  have h4 : IntKind.i64.wrap ((P : Int) + (j : Int)) = (q : Int) := by rw [IntKind.wrap_i64]; omega
  clear h2 hP
  go_enter Tryz.func108, Tryz.ntmps108
  go_wp2_with fail
  go_ret
  exact ⟨by first | rfl | (rw [h3]; exact ret_int h4) | (simp only [h3, h4]), (by repeat (first | assumption | exact Below.refl _ _ | (refine below_chain ?_ (by assumption) (by first | omega | (simp <;> omega) | simp)) | (refine Below.alloc ?_ (by first | omega | (simp <;> omega) | simp) _) | (apply below_drewN) | (apply below_drew) | (refine Below.setCell ?_ (by first | omega | (simp <;> omega) | simp) _)))⟩
set_option maxHeartbeats 2000000 in
set_option maxRecDepth 100000 in
theorem iAdd (K N i j g : Nat) (f : Mx) (x : Int) (w : World) (h : Own w g 3 1 K K (gr N f)) (hK : N * N = K) (hN : N ≤ 6) (hi : i < N) (hj : j < N) (hf : -1000 ≤ f i j ∧ f i j ≤ 1000) (hx : -1000 ≤ x ∧ x ≤ 1000) :
    Calls Tryz.prog 71 #[.agg #[.int .i64 N, .slice (some ⟨g, 0, none⟩) K K], .int .i64 i, .int .i64 j, .int .i64 x] w fun e w' => e = .returned (.tuple #[]) ∧ Own w' g 3 1 K K (gr N (putF f i j (f i j + x))) ∧ w.grownBy w' (some g) := by
  have hq := pl_lt hi hj
  obtain ⟨q, hqe⟩ : ∃ q, i * N + j = q := ⟨_, rfl⟩
  have hlt := h.lt
  have hqK : q < K := by omega
  have hqK' : (q : Int) < (K : Int) := by omega
  obtain ⟨z, hz⟩ : ∃ z, f i j = z := ⟨_, rfl⟩
  have hc := h.cells (gr_at f hi hj)
  rw [hqe, hz] at hc
  have hfz := h.frozen q
  have hwr : IntKind.i64.wrap (z + x) = z + x := by rw [IntKind.wrap_i64]; omega
  have H := Lib.hid (And.intro h (And.intro hqe (And.intro hz (And.intro hi hj))))
  have c1 := fun w => Lib.hid (iPlace K N i j q g w hN (by omega) (by omega) hqe)
  rw [hz]
  rw [hz] at hf
  clear h hqe hz hi hj hK hq
  go_enter Tryz.func71, Tryz.ntmps71
  go_wp2_with fail
  have hgs : ¬ g = w.heap.size := by omega
  have hsg : ¬ w.heap.size = g := by omega
  have HB0 := Lib.hid ((Below.refl w.heap.size w).alloc (Nat.le_refl _) (.cells #[.int .i64 (N : Int), .slice (some ⟨g, 0, none⟩) K K] 66))
  have r0 : (w.alloc (.cells #[.int .i64 (N : Int), .slice (some ⟨g, 0, none⟩) K K] 66)).cell? ⟨g, q, none⟩ = some (.int .i64 z) := cell_below_keep HB0.out hc
  have f0 : (w.alloc (.cells #[.int .i64 (N : Int), .slice (some ⟨g, 0, none⟩) K K] 66)).frozen? ⟨g, q, none⟩ = false := by rw [HB0.out.frozen hlt]; exact hfz
  have k0 : (w.alloc (.cells #[.int .i64 (N : Int), .slice (some ⟨g, 0, none⟩) K K] 66)).cell? ⟨w.heap.size, 0, none⟩ = some (.int .i64 (N : Int)) := by simp [go_sem]
  have k1 : (w.alloc (.cells #[.int .i64 (N : Int), .slice (some ⟨g, 0, none⟩) K K] 66)).cell? ⟨w.heap.size, 1, none⟩ = some (.slice (some ⟨g, 0, none⟩) K K) := by simp [go_sem]
  go_region_with (first | (go_at_call 108; (with_reducible refine ((c1 _).out).mono ?_); rintro e w2 ⟨rfl, hb_w2⟩; have r2 := cell_below_keep hb_w2 (cell_drew_keep r0); have f2 := frozen_below_keep hb_w2 (cell_drew_keep r0) f0; have j0 := cell_below_keep hb_w2 (cell_drew_keep k0); have j1 := cell_below_keep hb_w2 (cell_drew_keep k1)))
  all_goals
    have hl1 : w.heap.size ≤ (w.alloc (.cells #[.int .i64 (N : Int), .slice (some ⟨g, 0, none⟩) K K] 66)).heap.size := by simp
    have hB2 : Below w.heap.size w w2 := HB0.out.trans (((below_drew (Below.refl _ _)).trans hb_w2).mono hl1)
    obtain ⟨ho, hqe, hz, hi, hj⟩ := H.out
    have h2 := (ho.below hB2).set q (z + x) (by rw [ho.len]; omega)
    rw [← hqe, gr_put _ _ hi hj, hqe] at h2
    exact bodyPost_end (results_none rfl _ _ _) rfl ⟨rfl, h2, (grown_of_below hB2).trans (gb_one2 _ _ _ _)⟩
end Go.Proofs.YtoaomjchaihkaaaGreatDoor
namespace Go.Proofs.YtoaomjchaihkaaaGreatDoor
open Go.RowKit
set_option linter.unusedVariables false

/-- a number of a matrix added to -/
def ad (f : Mx) (i j : Nat) (x : Int) : Mx := putF f i j (f i j + x)
theorem ad_low {f : Mx} {b x : Int} (h : ∀ i j, -b ≤ f i j ∧ f i j ≤ b) (hx : -9 ≤ x ∧ x ≤ 9) (i0 j0 i j : Nat) : -(b + 9) ≤ ad f i0 j0 x i j ∧ ad f i0 j0 x i j ≤ b + 9 := by
  unfold ad putF
  have h1 := h i0 j0
  have h2 := h i j
  split <;> omega
theorem ad4 {f0 : Mx} {F T : Nat} {G : Int} (hFT : ¬ F = T) (x y : Nat) : ad (ad (ad (ad f0 F F G) T T G) F T (-G)) T F (-G) x y = f0 x y + G * (((if x = T then 1 else 0) - (if x = F then 1 else 0)) * ((if y = T then 1 else 0) - (if y = F then 1 else 0))) := by
  have h := lap_put2 (f0 := f0) (G := G) hFT x y
  rw [← h]
  have hTF : ¬ T = F := fun e => hFT e.symm
  have e1 : ad f0 F F G T T = f0 T T := by simp [ad, putF, hTF]
  have e2 : ad (ad f0 F F G) T T G F T = f0 F T := by simp [ad, putF, hTF, hFT]
  have e3 : ad (ad (ad f0 F F G) T T G) F T (-G) T F = f0 T F := by simp [ad, putF, hTF, hFT]
  show putF _ T F (ad (ad (ad f0 F F G) T T G) F T (-G) T F + -G) x y = _
  rw [e3]
  show putF (putF _ F T (ad (ad f0 F F G) T T G F T + -G)) T F _ x y = _
  rw [e2]
  show putF (putF (putF _ T T (ad f0 F F G T T + G)) F T _) T F _ x y = _
  rw [e1]
  rfl
theorem lap_stepN {rs : List Rn} {k : Nat} {r : Rn} (hr : rs[k]? = some r) (i j : Nat) : lap (rs.take (k + 1)) i j = lap (rs.take k) i j + r.g * (inc r i * inc r j) := lsm_take hr _

set_option maxHeartbeats 4000000 in
set_option maxRecDepth 100000 in
theorem iMxOf (N K : Nat) (p : Option Addr) (c m : Nat) (rs : List Rn) (w : World) (h : Runs w p rs) (hn : nOk (N : Int) rs = true) (hm : rs.length = m) (hK : N * N = K) :
    Calls Tryz.prog 33 #[.int .i64 N, .slice p m c] w fun e w' => ∃ g, e = .returned (.agg #[.int .i64 N, .slice (some ⟨g, 0, none⟩) K K]) ∧ w.heap.size ≤ g ∧ Own w' g 3 1 K K (gr N (lap rs)) ∧ Below w.heap.size w w' := by
  have hN := nOk_true hn
  have hl12 : m ≤ 12 := by rw [← hm]; exact hN.2.2.1
  have hN6 : N ≤ 6 := by have := hN.2.1; omega
  have hK36 : K ≤ 36 := by rw [← hK]; exact Nat.mul_le_mul hN6 hN6
  have hK0 : (N : Int) * (N : Int) = (K : Int) := by rw [← hK, Int.natCast_mul]
  have hwK : IntKind.i64.wrap ((N : Int) * (N : Int)) = (K : Int) := by rw [hK0, IntKind.wrap_i64]; omega
  have hmk := fun w => made_ints w K (by omega)
  have HO := fun (w : World) => Lib.hid (show Own (w.alloc (.cells (madeCells (Array.replicate 1 (.int .i64 0)) (K * 1)) 3)) w.heap.size 3 1 K K (List.replicate K 0) from by
    have ho := Own.made w 3 K 1 (by decide) (by unfold maxLen; omega)
    rw [Nat.mul_one] at ho ⊢; exact ho)
  have H := Lib.hid (And.intro h (And.intro hn (And.intro hm hK)))
  clear h hn hm hN hK
  go_enter Tryz.func33, Tryz.ntmps33
  go_wp2_with fail
  refine gen_world (fun W => Below w.heap.size w W ∧ w.heap.size + 1 + 1 < W.heap.size ∧ Own W (w.heap.size + 1) 3 1 K K (gr N (lap (rs.take 0))) ∧ W.cell? ⟨w.heap.size + 1 + 1, 0, none⟩ = some (.int .i64 (N : Int)) ∧ W.cell? ⟨w.heap.size + 1 + 1, 1, none⟩ = some (.slice (some ⟨w.heap.size + 1, 0, none⟩) K K) ∧ W.cell? ⟨w.heap.size, 0, none⟩ = some (.int .i64 0) ∧ W.cell? ⟨w.heap.size, 1, none⟩ = some (.slice none 0 0) ∧ W.frozen? ⟨w.heap.size, 0, none⟩ = false ∧ W.frozen? ⟨w.heap.size, 1, none⟩ = false) ?_ ?_
  · refine ⟨(by repeat (first | assumption | exact Below.refl _ _ | (refine below_chain ?_ (by assumption) (by first | omega | (simp <;> omega) | simp)) | (refine Below.alloc ?_ (by first | omega | (simp <;> omega) | simp) _) | (apply below_drewN) | (apply below_drew) | (refine Below.setCell ?_ (by first | omega | (simp <;> omega) | simp) _))), by simp, ?_, by simp [go_sem], by simp [go_sem], by simp [go_sem], by simp [go_sem], by simp [go_sem], by simp [go_sem]⟩
    have h1 := ((HO (w.alloc (.cells #[.int .i64 0, .slice none 0 0] 66))).out.alloc (.cells #[.int .i64 (N : Int), .slice (some ⟨w.heap.size + 1, 0, none⟩) K K] 66))
    rw [show rs.take 0 = ([] : List Rn) from rfl, ← gr_zero, H.out.2.2.2]
    simpa using h1
  · intro W hW
    obtain ⟨G, hG⟩ : ∃ G, w.heap.size + 1 = G := ⟨_, rfl⟩
    obtain ⟨M, hM⟩ : ∃ M, G + 1 = M := ⟨_, rfl⟩
    rw [hG, hM] at hW ⊢
    obtain ⟨hBW, hMl, hO, m0, m1, r0, r1, f0, f1⟩ := hW
    have hwG : ¬ w.heap.size = G := by omega
    have hMG : ¬ M = G := by omega
    have hMlt : w.heap.size < M := by omega
    have hGlt : w.heap.size < G := by omega
    clear HO hmk
    go_loopw [16] (fun i wr => ∃ k : Nat, k ≤ m ∧ i = .int .i64 k ∧ Own wr G 3 1 K K (gr N (lap (rs.take k))) ∧ W.grownBy wr (some G)) (fun i _ => m - (intOf i).toNat)
    case atStart => exact ⟨0, Nat.zero_le _, rfl, hO, World.grownBy.refl _ _⟩
    case round =>
      clear hO
      rename World => wr
      obtain ⟨k, hk, rfl, ho, hgr⟩ := hrel
      have hbr : Below w.heap.size w wr := below_gr hBW hgr (by omega) hBW.size
      have hsr := hgr.size
      have p0 := hgr.cell m0 (by simp; omega)
      have p1 := hgr.cell m1 (by simp; omega)
      by_cases hlt : k < m
      · have hlt' : (k : Int) < (m : Int) := by omega
        obtain ⟨B, o, r, rfl, hr, hB, e1, e2, e3, e4⟩ := (H.out.1.below hbr).at (i := k) (by rw [H.out.2.2.1]; exact hlt)
        have hro := rOk_true ((nOk_true H.out.2.1).2.2.2 k r hr)
        have hlow0 : ∀ i j, -(108 : Int) ≤ lap (rs.take k) i j ∧ lap (rs.take k) i j ≤ 108 := fun i j => lap_low (rs := rs.take k) (fun x hx => ⟨(ok_runs H.out.2.1 x (List.mem_of_mem_take hx)).1, (ok_runs H.out.2.1 x (List.mem_of_mem_take hx)).2.1, (ok_runs H.out.2.1 x (List.mem_of_mem_take hx)).2.2.1⟩) (by rw [List.length_take, H.out.2.2.1]; omega) i j
        obtain ⟨f0, hf0⟩ : ∃ f, lap (rs.take k) = f := ⟨_, rfl⟩
        rw [hf0] at ho hlow0
        obtain ⟨g, hg⟩ : ∃ g, r.g = g := ⟨_, rfl⟩
        have hgb : 1 ≤ g ∧ g ≤ 9 := by rw [← hg]; exact ⟨hro.2.2.2.2.2.2.2.1, hro.2.2.2.2.2.2.2.2⟩
        obtain ⟨g1, g2⟩ := hgb
        obtain ⟨F, hF⟩ : ∃ F : Nat, r.f = (F : Int) := ⟨r.f.toNat, by omega⟩
        obtain ⟨T, hT⟩ : ∃ T : Nat, r.t = (T : Int) := ⟨r.t.toNat, by omega⟩
        have hFn : F < N := by omega
        have hTn : T < N := by omega
        have hFT : ¬ F = T := by omega
        rw [hF] at e1
        rw [hT] at e2
        rw [hg] at e4
        have hst : ∀ x y, lap (rs.take (k + 1)) x y = ad (ad (ad (ad f0 F F g) T T g) F T (-g)) T F (-g) x y := fun x y => by
          rw [lap_stepN hr, hf0, hg, ad4 hFT]
          have hinc : ∀ z : Nat, inc r z = (if z = T then 1 else 0) - (if z = F then 1 else 0) := fun z => by
            unfold inc
            rw [hF, hT]
            congr 1
            · by_cases e : z = T
              · rw [if_pos e, if_pos (by omega)]
              · rw [if_neg e, if_neg (by omega)]
            · by_cases e : z = F
              · rw [if_pos e, if_pos (by omega)]
              · rw [if_neg e, if_neg (by omega)]
          rw [hinc, hinc]
        have hl1 := ad_low hlow0 (x := g) (by omega) F F
        have hl2 := ad_low hl1 (x := g) (by omega) T T
        have hl3 := ad_low hl2 (x := -g) (by omega) F T
        have hd := H.out.2.2.2
        have c1 := fun w h => Lib.hid (iAdd K N F F G f0 g w h hd hN6 hFn hFn (by have := hlow0 F F; omega) (by omega))
        have c2 := fun w h => Lib.hid (iAdd K N T T G (ad f0 F F g) g w h hd hN6 hTn hTn (by have := hl1 T T; omega) (by omega))
        have c3 := fun w h => Lib.hid (iAdd K N F T G (ad (ad f0 F F g) T T g) (-g) w h hd hN6 hFn hTn (by have := hl2 F T; omega) (by omega))
        have c4 := fun w h => Lib.hid (iAdd K N T F G (ad (ad (ad f0 F F g) T T g) F T (-g)) (-g) w h hd hN6 hTn hFn (by have := hl3 T F; omega) (by omega))
        have hgr4 : gr N (ad (ad (ad (ad f0 F F g) T T g) F T (-g)) T F (-g)) = gr N (lap (rs.take (k + 1))) := gr_congr (fun i j _ _ => (hst i j).symm)
        have HG := Lib.hid (And.intro hgr4 (And.intro hgr ho))
        have hwg : IntKind.i64.wrap (-g) = -g := by rw [IntKind.wrap_i64]; omega
        clear hst hgr4 hgr ho hlow0 hl1 hl2 hl3 hd hr hbr hf0 hg hBW H m0 m1
        go_upto_region 5 with fail
        refine gen_world (fun V => Own V G 3 1 K K (gr N f0) ∧ wr.grownBy V (some G) ∧ V.cell? ⟨M, 0, none⟩ = some (.int .i64 (N : Int)) ∧ V.cell? ⟨M, 1, none⟩ = some (.slice (some ⟨G, 0, none⟩) K K) ∧ V.cell? ⟨wr.heap.size, 0, none⟩ = some (.int .i64 (F : Int)) ∧ V.cell? ⟨wr.heap.size, 1, none⟩ = some (.int .i64 (T : Int)) ∧ V.cell? ⟨wr.heap.size, 3, none⟩ = some (.int .i64 g)) ?_ ?_
        · exact ⟨HG.out.2.2.alloc _, World.grownBy_alloc _ _ _, cell_below_keep ((Below.refl _ _).alloc (Nat.le_refl _) _) p0, cell_below_keep ((Below.refl _ _).alloc (Nat.le_refl _) _) p1, by simp [go_sem], by simp [go_sem], by simp [go_sem]⟩
        intro V hV
        obtain ⟨hoV, hgV, a0, b0, x0, y0, z0⟩ := hV
        have HO0 := Lib.hid (And.intro hoV hgV)
        obtain ⟨R, hR⟩ : ∃ R, wr.heap.size = R := ⟨_, rfl⟩
        have hRG : ¬ R = G := by omega
        rw [hR] at x0 y0 z0 ⊢
        clear hoV hgV p0 p1 e1 e2 e3 e4
        go_upto_region 6 with (go_at_call 71; (with_reducible refine ((c1 _ ?_).out).mono ?_); (focus (exact HO0.out.1; done)); rintro e w1 ⟨rfl, ho1, hg1⟩; have HO1 := Lib.hid (And.intro ho1 hg1); clear ho1 hg1)
        have a1 := HO1.out.2.cell a0 (by simp; omega)
        have b1 := HO1.out.2.cell b0 (by simp; omega)
        have x1 := HO1.out.2.cell x0 (by simp; omega)
        have y1 := HO1.out.2.cell y0 (by simp; omega)
        have z1 := HO1.out.2.cell z0 (by simp; omega)
        clear a0 b0 x0 y0 z0
        go_upto_region 7 with (go_at_call 71; (with_reducible refine ((c2 _ ?_).out).mono ?_); (focus (exact HO1.out.1; done)); rintro e w2 ⟨rfl, ho2, hg2⟩; have HO2 := Lib.hid (And.intro ho2 hg2); clear ho2 hg2)
        have a2 := HO2.out.2.cell a1 (by simp; omega)
        have b2 := HO2.out.2.cell b1 (by simp; omega)
        have x2 := HO2.out.2.cell x1 (by simp; omega)
        have y2 := HO2.out.2.cell y1 (by simp; omega)
        have z2 := HO2.out.2.cell z1 (by simp; omega)
        clear a1 b1 x1 y1 z1
        go_upto_region 8 with (go_at_call 71; (with_reducible refine ((c3 _ ?_).out).mono ?_); (focus (exact HO2.out.1; done)); rintro e w3 ⟨rfl, ho3, hg3⟩; have HO3 := Lib.hid (And.intro ho3 hg3); clear ho3 hg3)
        have a3 := HO3.out.2.cell a2 (by simp; omega)
        have b3 := HO3.out.2.cell b2 (by simp; omega)
        have x3 := HO3.out.2.cell x2 (by simp; omega)
        have y3 := HO3.out.2.cell y2 (by simp; omega)
        have z3 := HO3.out.2.cell z2 (by simp; omega)
        clear a2 b2 x2 y2 z2
        go_upto_region 9 with (go_at_call 71; (with_reducible refine ((c4 _ ?_).out).mono ?_); (focus (exact HO3.out.1; done)); rintro e w4 ⟨rfl, ho4, hg4⟩; have HO4 := Lib.hid (And.intro ho4 hg4); clear ho4 hg4)
        have hfin : W.grownBy w4 (some G) := ((((HG.out.2.1.trans HO0.out.2).trans HO1.out.2).trans HO2.out.2).trans HO3.out.2).trans HO4.out.2
        have hown : Own w4 G 3 1 K K (gr N (ad (ad (ad (ad f0 F F g) T T g) F T (-g)) T F (-g))) := HO4.out.1
        rw [HG.out.1] at hown
        have HX := Lib.hid (And.intro hown hfin)
        clear hown hfin c1 c2 c3 c4
        go_wp2_with fail
        go_roundw
        case rel => exact ⟨k + 1, by omega, by go_num, HX.out.1, HX.out.2⟩
        case measure => simp [intOf]; omega
      · have e : k = m := by omega
        subst e
        rw [List.take_of_length_le (by rw [H.out.2.2.1]; exact Nat.le_refl _)] at ho
        have q0 := hgr.cell r0 (by simp; omega)
        have q1 := hgr.cell r1 (by simp; omega)
        have g0 : wr.frozen? ⟨w.heap.size, 0, none⟩ = false := by rw [World.frozen?_of_block (hgr.block w.heap.size (by omega) (by simp; omega))]; exact f0
        have g1 : wr.frozen? ⟨w.heap.size, 1, none⟩ = false := by rw [World.frozen?_of_block (hgr.block w.heap.size (by omega) (by simp; omega))]; exact f1
        have HX := Lib.hid (And.intro ho hbr)
        clear ho hgr hbr H hBW m0 m1 r0 r1 f0 f1
        go_wp2_with fail
        refine bodyPost_ret (v := .agg #[.int .i64 (N : Int), .slice (some ⟨G, 0, none⟩) K K]) (by simp [results, Tryz.results33, go_sem, q0, q1]) rfl ⟨G, rfl, by omega, ?_, ?_⟩
        · exact (HX.out.1.setOther (a := ⟨w.heap.size, 0, none⟩) (Ne.symm hwG) _).setOther (a := ⟨w.heap.size, 1, none⟩) (Ne.symm hwG) _
        · exact (HX.out.2.setCell (Nat.le_refl _) _).setCell (Nat.le_refl _) _
end Go.Proofs.YtoaomjchaihkaaaGreatDoor
namespace Go.Proofs.YtoaomjchaihkaaaGreatDoor
open Go.RowKit
set_option linter.unusedVariables false

theorem take_oneW {α : Type} {l : List α} {i : Nat} {x : α} (h : l[i]? = some x) : l.take (i + 1) = l.take i ++ [x] := by rw [List.take_add_one, h]; rfl
theorem iIndexW (k c : Nat) (p : Option Addr) (T : List Int) (z : Int) (b : Bool) (w : World) (h : Ints w p T) (hk : T.length = k) (hl : k ≤ 1000) (hb : (open Classical in decide (z ∈ T)) = b) :
    Calls Tryz.prog 93 #[.slice p k c, .int .i64 z] w fun e w' => (∃ v : Int, e = .returned (.int .i64 v) ∧ decide (0 ≤ v) = b) ∧ w = w' := by
  have H := Lib.hid (And.intro h (And.intro hk hb))
  clear h hk hb
  go_enter Tryz.func93, Tryz.ntmps93
  go_wp2_with fail
  go_loopw [8] (fun i wr => ∃ j : Nat, j ≤ k ∧ i = .int .i64 j ∧ z ∉ T.take j ∧ w = wr) (fun i _ => k - (intOf i).toNat)
  case atStart => exact ⟨0, Nat.zero_le _, rfl, by simp, rfl⟩
  case round =>
    obtain ⟨j, hj, rfl, hn, rfl⟩ := hrel
    by_cases hlt : j < k
    · obtain ⟨B, o, y, rfl, hy, hB, e0⟩ := H.out.1.at (i := j) (by have := H.out.2.1; omega)
      have hlt' : (j : Int) < (k : Int) := by omega
      have HX := Lib.hid (And.intro hy hn)
      clear hy hn
      by_cases hyz : z = y
      · have HB : Hid (true = b) := Lib.hid (by rw [← H.out.2.2]; exact (decide_eq_true (by rw [hyz]; exact List.mem_of_getElem? HX.out.1)).symm)
        subst hyz
        go_wp2_with fail
        go_ret
        exact ⟨⟨j, rfl, by rw [← HB.out]; simp⟩, rfl⟩
      · have hyz' : (z == y) = false := by simpa using hyz
        have HN : Hid (z ∉ T.take (j + 1)) := Lib.hid (by rw [take_oneW HX.out.1]; intro hc; rcases List.mem_append.1 hc with h | h; exact HX.out.2 h; simp at h; exact hyz h)
        go_wp2_with fail
        go_roundw
        case rel => exact ⟨j + 1, by omega, by go_num, HN.out, by first | trivial | rfl⟩
        case measure => simp [intOf]; omega
    · have e : j = k := by omega
      subst e
      have HB : Hid (false = b) := Lib.hid (by rw [← H.out.2.2]; rw [List.take_of_length_le (Nat.le_of_eq H.out.2.1)] at hn; exact (decide_eq_false hn).symm)
      go_wp2_with fail
      go_ret
      exact ⟨⟨-1, rfl, by rw [← HB.out]; rfl⟩, rfl⟩
theorem iContainsW (k c : Nat) (p : Option Addr) (T : List Int) (z : Int) (b : Bool) (w : World) (h : Ints w p T) (hk : T.length = k) (hl : k ≤ 1000) (hb : (open Classical in decide (z ∈ T)) = b) :
    Calls Tryz.prog 54 #[.slice p k c, .int .i64 z] w fun e w' => e = .returned (.bool b) ∧ w = w' := by
  have c1 := fun w h => Lib.hid (iIndexW k c p T z b w h hk hl hb)
  have H := Lib.hid h
  clear h hk hb
  go_enter Tryz.func54, Tryz.ntmps54
  go_wp2_with (go_at_call 93; (with_reducible refine ((c1 _ ?_).out).mono ?_); (focus (exact H.out; done)); rintro e w' ⟨⟨v, rfl, hv⟩, rfl⟩; have HV := Lib.hid hv; clear hv)
  go_ret
  exact ⟨ret_bool HV.out, rfl⟩
/-- the nodes but some -/
def ktp (q : List Int) : Nat → List Nat
  | 0 => []
  | k + 1 => if (k : Int) ∈ q then ktp q k else ktp q k ++ [k]
def ktpI (q : List Int) (N : Nat) : List Int := (ktp q N).map (fun (x : Nat) => (x : Int))
def ktpA (q : List Int) (N i : Nat) : Nat := ((ktp q N)[i]?).getD 0
theorem ktp_lt {q : List Int} : ∀ {N x : Nat}, x ∈ ktp q N → x < N
  | N + 1, x, h => by
    have e : ktp q (N + 1) = if (N : Int) ∈ q then ktp q N else ktp q N ++ [N] := rfl
    rw [e] at h
    split at h
    · have := ktp_lt h; omega
    · rcases List.mem_append.1 h with h | h
      · have := ktp_lt h; omega
      · simp at h; omega
theorem ktp_len {q : List Int} : ∀ {N : Nat}, (ktp q N).length ≤ N
  | 0 => by simp [ktp]
  | N + 1 => by
    have h := ktp_len (q := q) (N := N)
    have e : ktp q (N + 1) = if (N : Int) ∈ q then ktp q N else ktp q N ++ [N] := rfl
    rw [e]
    split
    · omega
    · rw [List.length_append]; simp; omega
theorem ktpI_at {q : List Int} {N i : Nat} (h : i < (ktp q N).length) : (ktpI q N)[i]? = some ((ktpA q N i : Nat) : Int) ∧ ktpA q N i < N := by
  have h1 : (ktp q N)[i]? = some (ktpA q N i) := by unfold ktpA; rw [List.getElem?_eq_getElem h]; rfl
  refine ⟨?_, ktp_lt (List.mem_of_getElem? h1)⟩
  unfold ktpI
  rw [List.getElem?_map, h1]; rfl
theorem ktp_zero : ∀ N, N < 7 → ktp [0] N = (List.range (N - 1)).map (fun x => x + 1) := by decide
theorem ktp_two : ∀ N : Nat, N < 7 → ∀ i : Nat, i < N → ∀ j : Nat, j < N → i ≠ j → ktp [(i : Int), (j : Int)] N = (List.range (N - 2)).map (fun x => skip (max i j) (skip (min i j) x)) := by decide
set_option maxHeartbeats 4000000 in
set_option maxRecDepth 100000 in
theorem moW (k b b2 : Nat) (F : Mx) (w : World) (hk : k ≤ 5)
    (hcall : ∀ (i j : Nat) (W : World), i < k → j < k → Below w.heap.size w W → Calls Tryz.prog 110 #[.int .i64 i, .int .i64 j, .pointer (some ⟨b, 0, none⟩), .pointer (some ⟨b2, 0, none⟩)] W fun e W' => e = .returned (.int .i64 (F i j)) ∧ Below W.heap.size W W') :
    Calls Tryz.prog 109 #[.int .i64 k, .func (.func 110) #[] #[.pointer (some ⟨b, 0, none⟩), .pointer (some ⟨b2, 0, none⟩)]] w fun e w' => ∃ bs, e = .returned (.slice (some ⟨w.heap.size, 0, none⟩) k k) ∧ GridO w' 3 30 w.heap.size w.heap.size k bs (mkL k F) ∧ Below w.heap.size w w' := by
  have hm : ∀ w : World, (Instr.makeSlice 64 (.int .i64 (k : Int)) (.int .i64 (k : Int))).run Tryz.prog w = .ok (.slice (some ⟨w.heap.size, 0, none⟩) k k) (w.alloc (.cells (madeCells (Array.replicate 1 (.slice none 0 0)) (k * 1)) 30)) := fun w => made_rowsP w k (by omega)
  have hm2 := fun w => made_ints w k (by omega)
  have H0 := Lib.hid (GridT.made w 3 30 k (by omega))
  go_enter Tryz.func109, Tryz.ntmps109
  go_wp2_with fail
  clear hm
  go_loopw [12] (fun i wr => ∃ (j : Nat) (bs : List (Nat × Nat)), j ≤ k ∧ i = .int .i64 j ∧ GridT wr 3 30 w.heap.size w.heap.size k bs ((mkL k F).take j) ∧ Below w.heap.size w wr) (fun i _ => k - (intOf i).toNat)
  case atStart => exact ⟨0, [], Nat.zero_le _, rfl, by simpa using H0.out, (by repeat (first | assumption | exact Below.refl _ _ | (refine below_chain ?_ (by assumption) (by first | omega | (simp <;> omega) | simp)) | (refine Below.alloc ?_ (by first | omega | (simp <;> omega) | simp) _) | (apply below_drewN) | (apply below_drew) | (refine Below.setCell ?_ (by first | omega | (simp <;> omega) | simp) _)))⟩
  case round =>
    clear H0
    obtain ⟨j, bs, hj, rfl, hg, hbr⟩ := hrel
    have hbs := hbr.size
    have hlg := hg.top.lt
    by_cases hlt : j < k
    · have hlt' : (j : Int) < (k : Int) := by omega
      have htl : ((mkL k F).take j).length = j := by rw [List.length_take, mkL_len]; omega
      have hz := hg.z
      obtain ⟨v0, hv0⟩ : ∃ v, wr.cell? ⟨w.heap.size, j, none⟩ = some v := by
        have h1 := hg.top.cells (i := j) (v := .slice none 0 0) (by
          rw [List.getElem?_append_right (by rw [rowVs_len hg.len, htl]; exact Nat.le_refl _), rowVs_len hg.len, htl, Nat.sub_self, List.getElem?_replicate, if_pos (by omega)])
        exact ⟨_, h1⟩
      have hf0 := hg.top.frozen j
      have HG := Lib.hid (And.intro hg (And.intro hbr (And.intro htl hz)))
      have ho := Own.made wr 3 k 1 (by decide) (by unfold maxLen; omega)
      have h2 := (hg.below ((Below.refl _ _).alloc (Nat.le_refl _) (.cells (madeCells (Array.replicate 1 (.int .i64 0)) (k * 1)) 3))).next (r := List.replicate k 0) (b := wr.heap.size) (c := k) (by rw [htl]; exact hlt) (by rw [List.length_replicate]; rw [Nat.mul_one] at ho ⊢; exact ho) ⟨hbs, by omega⟩ (fun i b' c' hb' e => by have := hz i b' c' hb'; omega)
      rw [htl, List.length_replicate, ← prow_zero k (F j)] at h2
      have HS := Lib.hid h2
      clear hg hbr htl hz ho h2
      go_wp2_with fail
      go_loopw [25] (fun i wi => ∃ x : Nat, x ≤ k ∧ i = .int .i64 x ∧ GridT wi 3 30 w.heap.size w.heap.size k (bs ++ [(wr.heap.size, k)]) ((mkL k F).take j ++ [prow k x (F j)]) ∧ Below w.heap.size w wi) (fun i _ => k - (intOf i).toNat)
      case atStart => exact ⟨0, Nat.zero_le _, rfl, by simpa [go_sem, hlg] using HS.out, ((HG.out.2.1.setCell (Nat.le_refl _) _).alloc (by simp; omega) _)⟩
      case round =>
        clear HS hv0 hf0
        rename World => wi
        obtain ⟨x, hx, rfl, hgi, hbi⟩ := hrel
        have hlen := HG.out.1.len
        rw [HG.out.2.2.1] at hlen
        have hbsj : (bs ++ [(wr.heap.size, k)])[j]? = some (wr.heap.size, k) := by rw [List.getElem?_append_right (by omega), hlen, Nat.sub_self]; rfl
        have hLj : ((mkL k F).take j ++ [prow k x (F j)])[j]? = some (prow k x (F j)) := by rw [List.getElem?_append_right (by rw [HG.out.2.2.1]; exact Nat.le_refl _), HG.out.2.2.1, Nat.sub_self]; rfl
        have ho := hgi.row j _ _ _ hbsj hLj
        rw [prow_len _ hx] at ho
        by_cases hxk : x < k
        · have hxk' : (x : Int) < (k : Int) := by omega
          have t0 := hgi.top.cells (i := j) (v := .slice (some ⟨wr.heap.size, 0, none⟩) k k) (by
            have := rowVs_at hbsj hLj
            rw [prow_len _ hx] at this
            rw [List.getElem?_append_left (List.getElem?_eq_some_iff.1 this).1]; exact this)
          obtain ⟨z0, hz0⟩ : ∃ z, (prow k x (F j))[x]? = some z := ⟨_, List.getElem?_eq_getElem (by rw [prow_len _ hx]; exact hxk)⟩
          have r0 := ho.cells (i := x) hz0
          have f0 := ho.frozen x
          have HI := Lib.hid (And.intro hgi (And.intro hbi (And.intro ho (And.intro hbsj hLj))))
          have hli := hbi.size
          have hlw := ho.lt
          have c1 := fun W h => Lib.hid (hcall j x W hlt hxk h)
          clear hgi hbi ho hbsj hLj hz0 hlen
          go_wp2_with fail
          have hne : ¬ wr.heap.size = w.heap.size := by omega
          have hne' : ¬ w.heap.size = wr.heap.size := by omega
          go_region_held3 (fun W => W.cell? ⟨w.heap.size, j, none⟩ = some (.slice (some ⟨wr.heap.size, 0, none⟩) k k)) (first | (go_keep; done) | ((with_reducible refine cell_below_keep (by with_reducible assumption) ?_); with_reducible assumption))
            (first | (go_at_call 110; (with_reducible refine ((c1 _ ?_).out).mono ?_); (focus (first | exact HI.out.2.1 | exact below_drew HI.out.2.1; done)); rintro e w2 ⟨rfl, hb_w2⟩; have r2 := cell_below_keep hb_w2 (cell_drew_keep r0); have f2 := frozen_below_keep hb_w2 (cell_drew_keep r0) f0))
          have hB2 : Below wi.heap.size wi w2 := (below_drew (Below.refl wi.heap.size wi)).trans hb_w2
          obtain ⟨hgi, hbi, ho, hbsj, hLj⟩ := HI.out
          have ho3 := (ho.below hB2).set x (F j x) (by rw [prow_len _ hx]; exact hxk)
          rw [prow_set _ hxk] at ho3
          have h3 := (hgi.below hB2).setRow hbsj hLj (r' := prow k (x + 1) (F j)) (by rw [prow_len _ hxk, prow_len _ hx]) (by rw [prow_len _ hxk]; exact ho3) (gb_oneO _ _ _ _)
          have h4 : ((mkL k F).take j ++ [prow k x (F j)]).set j (prow k (x + 1) (F j)) = (mkL k F).take j ++ [prow k (x + 1) (F j)] := by
            rw [List.set_append_right _ _ (by rw [HG.out.2.2.1]; exact Nat.le_refl _), HG.out.2.2.1, Nat.sub_self]; rfl
          rw [h4] at h3
          have HY := Lib.hid (And.intro h3 ((hbi.trans (hB2.mono hli)).setCell (p := ⟨wr.heap.size, x, none⟩) hbs (.int .i64 (F j x))))
          clear hgi hbi ho hbsj hLj ho3 h3 h4 hB2
          go_wp2_with fail
          go_roundw
          case rel => exact ⟨x + 1, by omega, by go_num, HY.out.1, HY.out.2⟩
          case measure => simp [intOf]; omega
        · have e : x = k := by omega
          subst e
          rw [mkL_snoc hlt] at hgi
          have HX := Lib.hid (And.intro hgi hbi)
          clear hgi hbi ho hbsj hLj hlen
          go_wp2_with fail
          go_roundw
          case rel => exact ⟨j + 1, _, by omega, by go_num, HX.out.1, HX.out.2⟩
          case measure => simp [intOf]; omega
    · have e : j = k := by omega
      subst e
      rw [List.take_of_length_le (by rw [mkL_len]; omega)] at hg
      have HX := Lib.hid (And.intro (hg.done mkL_len) hbr)
      clear hg hbr
      go_wp2_with fail
      go_ret
      exact ⟨bs, rfl, HX.out.1, HX.out.2⟩
set_option maxHeartbeats 2000000 in
set_option maxRecDepth 100000 in
theorem cWithout (K N k d i j u v b b2 g gk : Nat) (f : Mx) (w : World) (hc0 : w.cell? ⟨b, 0, none⟩ = some (.int .i64 (N : Int))) (hc1 : w.cell? ⟨b, 1, none⟩ = some (.slice (some ⟨g, 0, none⟩) K K)) (hk0 : w.cell? ⟨b2, 0, none⟩ = some (.slice (some ⟨gk, 0, none⟩) k d)) (hki : w.cell? ⟨gk, i, none⟩ = some (.int .i64 (u : Int))) (hkj : w.cell? ⟨gk, j, none⟩ = some (.int .i64 (v : Int))) (h : Own w g 3 1 K K (gr N f)) (hK : N * N = K) (hN6 : N ≤ 6) (hi : i < k) (hj : j < k) (hu : u < N) (hv : v < N) :
    Calls Tryz.prog 110 #[.int .i64 i, .int .i64 j, .pointer (some ⟨b, 0, none⟩), .pointer (some ⟨b2, 0, none⟩)] w fun e w' => e = .returned (.int .i64 (f u v)) ∧ Below w.heap.size w w' := by
  have hq := pl_lt hu hv
  obtain ⟨q, hqe⟩ : ∃ q, u * N + v = q := ⟨_, rfl⟩
  have hqK : q < K := by omega
  have hqK' : (q : Int) < (K : Int) := by omega
  have hi' : (i : Int) < (k : Int) := by omega
  have hj' : (j : Int) < (k : Int) := by omega
  obtain ⟨z, hz⟩ : ∃ z, f u v = z := ⟨_, rfl⟩
  have hc := h.cells (gr_at f hu hv)
  rw [hqe, hz] at hc
  have hbl := World.block_lt_of_cell? w _ hc0
  have c1 := fun w => Lib.hid (iPlace K N u v q g w hN6 (by omega) (by omega) hqe)
  rw [hz]
  clear h hqe hz hK hq
  go_enter Tryz.func110, Tryz.ntmps110
  go_wp2_with fail
  go_region_held3 (fun W => W.cell? ⟨b, 0, none⟩ = some (.int .i64 (N : Int)) ∧ W.cell? ⟨b, 1, none⟩ = some (.slice (some ⟨g, 0, none⟩) K K) ∧ W.cell? ⟨b2, 0, none⟩ = some (.slice (some ⟨gk, 0, none⟩) k d) ∧ W.cell? ⟨gk, i, none⟩ = some (.int .i64 (u : Int)) ∧ W.cell? ⟨gk, j, none⟩ = some (.int .i64 (v : Int)) ∧ W.cell? ⟨g, q, none⟩ = some (.int .i64 z)) (first | (go_keep; done) | ((with_reducible refine cell_below_keep (by with_reducible assumption) ?_); with_reducible assumption))
    (first | (go_at_call 108; (with_reducible refine ((c1 _).out).mono ?_); rintro e w2 ⟨rfl, hb_w2⟩; have j0 := cell_below_keep hb_w2 (cell_drew_keep hc0); have j1 := cell_below_keep hb_w2 (cell_drew_keep hc1); have j2 := cell_below_keep hb_w2 (cell_drew_keep hk0); have j3 := cell_below_keep hb_w2 (cell_drew_keep hki); have j4 := cell_below_keep hb_w2 (cell_drew_keep hkj); have j5 := cell_below_keep hb_w2 (cell_drew_keep hc)))
  go_wp2_with fail
  go_ret
  exact ⟨rfl, (below_drew (Below.refl _ _)).trans hb_w2⟩
/-- a list that begins as nil and is appended to -/
def KeptV (lo : Nat) (W : World) (T : TypeId) (sz n : Nat) (L : List Int) (v : Value) : Prop := (n = 0 ∧ L = [] ∧ v = .slice none 0 0) ∨ (0 < n ∧ ∃ g cap, v = .slice (some ⟨g, 0, none⟩) n cap ∧ lo ≤ g ∧ Own W g T sz n cap L)
theorem frozen_below_kW {w w' : World} {p : Addr} {v : Value} (h : Below w.heap.size w w') (hc : w.cell? p = some v) (hf : w.frozen? p = false) : w'.frozen? p = false := by
  rw [h.frozen (World.block_lt_of_cell? w _ hc)]; exact hf
set_option maxHeartbeats 4000000 in
set_option maxRecDepth 100000 in
theorem iWithout (K N l c g k : Nat) (pn : Option Addr) (q : List Int) (f : Mx) (w : World) (h : Own w g 3 1 K K (gr N f)) (hK : N * N = K) (hN6 : N ≤ 6) (hq : Ints w pn q) (hl : q.length = l) (hl2 : l ≤ 1000) (hk : (ktp q N).length = k) (hk5 : k ≤ 5) :
    Calls Tryz.prog 72 #[.agg #[.int .i64 N, .slice (some ⟨g, 0, none⟩) K K], .slice pn l c] w (Made w k (mkL k (fun i j => f (ktpA q N i) (ktpA q N j)))) := by
  have c1 := fun (x : Nat) (b : Bool) W hh hb => Lib.hid (iContainsW l c pn q (x : Int) b W hh hl hl2 hb)
  have c2 := fun W b b2 hc => Lib.hid (moW k b b2 (fun i j => f (ktpA q N i) (ktpA q N j)) W hk5 hc)
  have H := Lib.hid (And.intro h (And.intro hq (And.intro hK hk)))
  clear h hq hK hk
  go_enter Tryz.func72, Tryz.ntmps72
  go_wp2_with fail
  obtain ⟨b1, hb1⟩ : ∃ b, b = w.heap.size := ⟨_, rfl⟩
  obtain ⟨b2, hb2⟩ : ∃ b, b = b1 + 1 := ⟨_, rfl⟩
  refine gen_world (fun W => W.cell? ⟨b1, 0, none⟩ = some (.int .i64 (N : Int)) ∧ W.cell? ⟨b1, 1, none⟩ = some (.slice (some ⟨g, 0, none⟩) K K) ∧ W.cell? ⟨b2, 0, none⟩ = some (.slice none 0 0) ∧ W.frozen? ⟨b2, 0, none⟩ = false ∧ Below w.heap.size w W ∧ b2 < W.heap.size) ?_ ?_
  · rw [hb2, hb1]
    refine ⟨by simp [go_sem], by simp [go_sem], by simp [go_sem], by simp [go_sem], (by repeat (first | assumption | exact Below.refl _ _ | (refine below_chain ?_ (by assumption) (by first | omega | (simp <;> omega) | simp)) | (refine Below.alloc ?_ (by first | omega | (simp <;> omega) | simp) _) | (apply below_drewN) | (apply below_drew) | (refine Below.setCell ?_ (by first | omega | (simp <;> omega) | simp) _))), by simp⟩
  · intro W hW
    rw [← hb1, ← hb2]
    have hb12 : b1 < b2 := by omega
    have hwb1 : w.heap.size ≤ b1 := by omega
    have hne12 : ¬ b1 = b2 := by omega
    obtain ⟨hW1, hW2, hW3, hW4, hW5, hW6⟩ := hW
    clear hb1 hb2
    go_loopw [9] (fun i wr => ∃ (x : Nat) (v : Value), x ≤ N ∧ i = .int .i64 x ∧ wr.cell? ⟨b1, 0, none⟩ = some (.int .i64 (N : Int)) ∧ wr.cell? ⟨b1, 1, none⟩ = some (.slice (some ⟨g, 0, none⟩) K K) ∧ wr.cell? ⟨b2, 0, none⟩ = some v ∧ wr.frozen? ⟨b2, 0, none⟩ = false ∧ KeptV (b2 + 1) wr 3 1 (ktp q x).length (ktpI q x) v ∧ Below w.heap.size w wr ∧ b2 < wr.heap.size) (fun i _ => N - (intOf i).toNat)
    case atStart => exact ⟨0, _, Nat.zero_le _, rfl, hW1, hW2, hW3, hW4, .inl ⟨rfl, rfl, rfl⟩, hW5, hW6⟩
    case round =>
      clear hW1 hW2 hW3 hW4 hW5 hW6
      rename World => wr
      obtain ⟨x, v, hx, rfl, hk0, hk1, hkv, hkf, hkept, hb, hbl⟩ := hrel
      have hbs := hb.size
      by_cases hlt : x < N
      · have hlt' : (x : Int) < (N : Int) := by omega
        have hkl := ktp_len (q := q) (N := x)
        by_cases hm : (x : Int) ∈ q
        · have e1 : ktp q (x + 1) = ktp q x := by show (if (x : Int) ∈ q then _ else _) = _; rw [if_pos hm]
          have e2 : ktpI q (x + 1) = ktpI q x := by unfold ktpI; rw [e1]
          have c1x := c1 x true wr (H.out.2.1.below hb) (by simpa using hm)
          have HK := Lib.hid (And.intro hkept (And.intro hb (And.intro e1 e2)))
          clear hkept e1 e2 hm c1 c2
          go_wp2_with (go_at_call 54; (with_reducible refine (c1x.out).mono ?_); rintro e w' ⟨rfl, rfl⟩)
          go_roundw
          case rel => exact ⟨x + 1, v, by omega, by go_num, hk0, hk1, hkv, hkf, by rw [HK.out.2.2.1, HK.out.2.2.2]; exact HK.out.1, HK.out.2.1, hbl⟩
          case measure => simp [intOf]; omega
        · have e1 : ktp q (x + 1) = ktp q x ++ [x] := by show (if (x : Int) ∈ q then _ else _) = _; rw [if_neg hm]
          have e2 : ktpI q (x + 1) = ktpI q x ++ [(x : Int)] := by unfold ktpI; rw [e1, List.map_append]; rfl
          have c1x := c1 x false wr (H.out.2.1.below hb) (by simpa using hm)
          have e3 : (ktp q (x + 1)).length = (ktp q x).length + 1 := by rw [e1]; simp
          obtain ⟨n, hn⟩ : ∃ n, (ktp q x).length = n := ⟨_, rfl⟩
          obtain ⟨L, hL⟩ : ∃ L, ktpI q x = L := ⟨_, rfl⟩
          rw [hn, hL] at hkept
          rw [hn] at e3 hkl
          rw [hL] at e2
          have HE := Lib.hid (And.intro hb (And.intro e2 e3))
          clear e1 e2 e3 hm c1 c2 hn hL
          have hB0 : Below wr.heap.size wr (wr.alloc (.cells #[.int .i64 (x : Int)] 3)) := (Below.refl _ _).alloc (Nat.le_refl _) _
          have a0 := cell_below_keep hB0 hk0
          have a1 := cell_below_keep hB0 hk1
          have a2 := cell_below_keep hB0 hkv
          have a3 := frozen_below_kW hB0 hkv hkf
          rcases hkept with ⟨rfl, rfl, rfl⟩ | ⟨hn0, gk, cap, rfl, hgk, ho⟩
          · go_wp2_with (first
              | (go_at_call 54; (with_reducible refine (c1x.out).mono ?_); rintro e w' ⟨rfl, rfl⟩)
              | (at_builtin; refine wp_append_nil _ rfl _ _ 30 rfl 3 _ 1 8 Tryz.underlying30 info_int rfl (by decide) (by decide) rfl _ 1 1 [(x : Int)] rfl (by decide) rfl (by intro j z hz; match j, hz with | 0, hz => (simp at hz; subst hz; simp [go_sem, add_flat]) | j + 1, hz => simp at hz) (by omega) ?_; intro d1 w1 hown hb1; intro hlt1; have HN := Lib.hid (And.intro hown hb1); have k0 := cell_below_keep hb1 a0; have k1 := cell_below_keep hb1 a1; have k2 := cell_below_keep hb1 a2; have k3 := frozen_below_kW hb1 a2 a3; clear hown hb1))
            go_roundw
            case rel =>
              have hsz0 : wr.heap.size < w1.heap.size := by simp at hlt1; omega
              exact ⟨x + 1, .slice (some ⟨wr.heap.size + 1, 0, none⟩) 1 d1, by omega, by go_num, (cell_set_keep _ (by dsimp only; omega) k0), (cell_set_keep _ (by dsimp only; omega) k1), by simp [go_sem, k2], by simp [go_sem, k3], .inr ⟨by have := HE.out.2.2; omega, wr.heap.size + 1, d1, by rw [HE.out.2.2], by omega, by rw [HE.out.2.1, HE.out.2.2]; have := HN.out.1; simp at this; exact this.setOther (a := ⟨b2, 0, none⟩) (by simp; omega) _⟩, ((HE.out.1.alloc hbs _).trans (HN.out.2.mono (by simp; omega))).setCell (by simp; omega) _, by simp; omega⟩
            case measure => simp [intOf]; omega
          · have HO := Lib.hid ho
            clear ho
            have hgb : ¬ gk = b2 := by omega
            have hgb1 : ¬ gk = b1 := by omega
            go_wp2_with (first
              | (go_at_call 54; (with_reducible refine (c1x.out).mono ?_); rintro e w' ⟨rfl, rfl⟩)
              | (at_builtin; refine wp_append _ rfl _ _ 30 rfl 3 _ 1 8 Tryz.underlying30 info_int rfl (by decide) (by decide) gk n cap _ rfl (HO.out.alloc _) _ 1 1 [(x : Int)] rfl rfl (by intro j z hz; match j, hz with | 0, hz => (simp at hz; subst hz; simp [go_sem, add_flat]) | j + 1, hz => simp at hz) (by omega) ?_; intro g1 d1 w1 hown hg1 hloc hsz1; have HN := Lib.hid (And.intro hown (And.intro hg1 hloc)); have k0 := ((gcell hg1).1 b1 0 (by simp; omega) (by omega)).trans a0; have k1 := ((gcell hg1).1 b1 1 (by simp; omega) (by omega)).trans a1; have k2 := ((gcell hg1).1 b2 0 (by simp; omega) (by omega)).trans a2; have k3 := ((gcell hg1).2 b2 0 (by simp; omega) (by omega)).trans a3; clear hown hg1 hloc))
            go_roundw
            case rel =>
              have hsz2 : wr.heap.size < w1.heap.size := by simp at hsz1; omega
              have hg1l : b2 + 1 ≤ g1 := by
                rcases HN.out.2.2 with e | e
                · omega
                · rw [e]; simp; omega
              exact ⟨x + 1, .slice (some ⟨g1, 0, none⟩) (n + 1) d1, by omega, by go_num, (cell_set_keep _ (by dsimp only; omega) k0), (cell_set_keep _ (by dsimp only; omega) k1), by simp [go_sem, k2], by simp [go_sem, k3], .inr ⟨by have := HE.out.2.2; omega, g1, d1, by rw [HE.out.2.2], hg1l, by rw [HE.out.2.1, HE.out.2.2]; exact HN.out.1.setOther (a := ⟨b2, 0, none⟩) (by simp; omega) _⟩, (below_gr (HE.out.1.alloc hbs _) HN.out.2.1 (by omega) (by simp; omega)).setCell (by simp; omega) _, by simp; omega⟩
            case measure => simp [intOf]; omega
      · have e : x = N := by omega
        subst e
        have hkk := H.out.2.2.2
        rw [hkk] at hkept
        rcases hkept with ⟨hk00, hL0, rfl⟩ | ⟨hn0, gk, cap, rfl, hgk, ho⟩
        · have c3 := c2 wr b1 b2 (fun i j W hi hj hBW => by omega)
          have HB := Lib.hid hb
          subst hk00
          rw [show (((0 : Nat)) : Int) = (0 : Int) from rfl] at c3
          clear hL0 hkk c1 c2
          go_wp2_with (go_at_call 109; (with_reducible refine (c3.out).mono ?_); rintro e w2 ⟨bs, rfl, hg_w2, hb_w2⟩; have HG := Lib.hid (And.intro hg_w2 hb_w2); clear hg_w2 hb_w2)
          go_ret
          exact ⟨_, bs, rfl, HG.out.1.mono hbs, HB.out.trans (HG.out.2.mono hbs)⟩
        · have c3 := c2 wr b1 b2 (fun i j W hi hj hBW => by
            have ki := ktpI_at (q := q) (N := x) (i := i) (by rw [hkk]; exact hi)
            have kj := ktpI_at (q := q) (N := x) (i := j) (by rw [hkk]; exact hj)
            exact cWithout K x k cap i j (ktpA q x i) (ktpA q x j) b1 b2 g gk f W (cell_below_keep hBW hk0) (cell_below_keep hBW hk1) (cell_below_keep hBW hkv) (cell_below_keep hBW (by have := ho.cells ki.1; simpa using this)) (cell_below_keep hBW (by have := ho.cells kj.1; simpa using this)) ((H.out.1.below hb).below hBW) H.out.2.2.1 hN6 hi hj ki.2 kj.2)
          have HB := Lib.hid hb
          clear ho hkk c1 c2
          go_wp2_with (go_at_call 109; (with_reducible refine (c3.out).mono ?_); rintro e w2 ⟨bs, rfl, hg_w2, hb_w2⟩; have HG := Lib.hid (And.intro hg_w2 hb_w2); clear hg_w2 hb_w2)
          go_ret
          exact ⟨_, bs, rfl, HG.out.1.mono hbs, HB.out.trans (HG.out.2.mono hbs)⟩
theorem ints_oneW {w : World} {B : Nat} {x : Int} (h1 : w.cell? ⟨B, 0, none⟩ = some (.int .i64 x)) : Ints w (some ⟨B, 0, none⟩) [x] := by
  refine .inr ⟨B, 0, rfl, World.block_lt_of_cell? w _ h1, fun i z hz => ?_⟩
  match i, hz with
  | 0, hz => simp at hz; subst hz; simpa using h1
  | i + 1, hz => simp at hz
theorem iRows (K N n g : Nat) (f : Mx) (w : World) (h : Own w g 3 1 K K (gr N f)) (hK : N * N = K) (hN : N = n + 1) (hN6 : N ≤ 6) :
    Calls Tryz.prog 34 #[.agg #[.int .i64 N, .slice (some ⟨g, 0, none⟩) K K]] w (Made w n (mkL n (fun i j => f (i + 1) (j + 1)))) := by
  have hkl : (ktp [0] N).length = n := by rw [ktp_zero N (by omega)]; simp; omega
  have hka : ∀ i, i < n → ktpA [0] N i = i + 1 := fun i hi => by
    unfold ktpA
    rw [ktp_zero N (by omega), List.getElem?_map, List.getElem?_range (by omega)]; rfl
  have hm : mkL n (fun i j => f (ktpA [0] N i) (ktpA [0] N j)) = mkL n (fun i j => f (i + 1) (j + 1)) := mkL_congr (fun i j hi hj => by rw [hka i hi, hka j hj])
  have c1 := fun pn c W hh hq => Lib.hid (by have := iWithout K N 1 c g n pn [0] f W hh hK hN6 hq rfl (by omega) hkl (by omega); rw [hm] at this; exact this)
  have H := Lib.hid h
  clear h hK hN hkl hka hm
  go_enter Tryz.func34, Tryz.ntmps34
  go_wp2_with (go_at_call 72; (with_reducible refine ((c1 _ _ _ (H.out.below (by repeat (first | assumption | exact Below.refl _ _ | (refine below_chain ?_ (by assumption) (by first | omega | (simp <;> omega) | simp)) | (refine Below.alloc ?_ (by first | omega | (simp <;> omega) | simp) _) | (apply below_drewN) | (apply below_drew) | (refine Below.setCell ?_ (by first | omega | (simp <;> omega) | simp) _)))) (ints_oneW (by simp [go_sem]))).out).mono ?_); rintro e w2 ⟨g2, bs, rfl, hg_w2, hb_w2⟩; have HG := Lib.hid (And.intro hg_w2 hb_w2); clear hg_w2 hb_w2)
  go_ret
  have hl : w.heap.size ≤ ((w.alloc (.cells #[.int .i64 (N : Int), .slice (some ⟨g, 0, none⟩) K K] 66)).alloc (.cells #[.int .i64 0] 3)).heap.size := by simp; omega
  exact ⟨_, bs, rfl, HG.out.1.mono hl, Below.trans (show Below w.heap.size w ((w.alloc (.cells #[.int .i64 (N : Int), .slice (some ⟨g, 0, none⟩) K K] 66)).alloc (.cells #[.int .i64 0] 3)) from (by repeat (first | assumption | exact Below.refl _ _ | (refine below_chain ?_ (by assumption) (by first | omega | (simp <;> omega) | simp)) | (refine Below.alloc ?_ (by first | omega | (simp <;> omega) | simp) _) | (apply below_drewN) | (apply below_drew) | (refine Below.setCell ?_ (by first | omega | (simp <;> omega) | simp) _)))) (HG.out.2.mono hl)⟩
set_option maxHeartbeats 2000000 in
theorem iTrees_yes (N n : Nat) (p : Option Addr) (c m : Nat) (rs : List Rn) (w : World) (h : Runs w p rs) (hn : nOk (N : Int) rs = true) (hm : rs.length = m) (hNn : N = n + 1) :
    Calls Tryz.prog 98 #[.int .i64 N, .slice p m c] w fun e w' => e = .returned (.int .i64 (det n (lap0 rs))) ∧ Below w.heap.size w w' := by
  have hN6 : N ≤ 6 := by have := (nOk_true hn).2.1; omega
  have hsm := lap0_small n (fun r hr => ⟨(ok_runs hn r hr).1, (ok_runs hn r hr).2.1, (ok_runs hn r hr).2.2.1⟩) (nOk_true hn).2.2.1
  have c1 := fun w h => Lib.hid (by have := iValid N p c rs true w h (by have := (nOk_true hn).2.2.1; omega) hn; rw [hm] at this; exact this)
  have c2 := fun w h => Lib.hid (iMxOf N (N * N) p c m rs w h hn hm rfl)
  have c3 := fun g w h => Lib.hid (iRows (N * N) N n g (lap rs) w h rfl hNn hN6)
  have c4 := fun p d w h => Lib.hid (iDet n d p (mkL n (lap0 rs)) w h mkL_sq (by omega) (fun i j hi hj => by rw [ent_mkL hi hj]; exact hsm i j hi hj))
  have hde : det n (ent (mkL n (lap0 rs))) = det n (lap0 rs) := det_congr (fun i j hi hj => ent_mkL hi hj)
  obtain ⟨D, hD⟩ : ∃ D, det n (lap0 rs) = D := ⟨_, rfl⟩
  rw [hde] at c4
  rw [hD] at c4 ⊢
  obtain ⟨K, hK⟩ : ∃ K, N * N = K := ⟨_, rfl⟩
  rw [hK] at c2 c3
  have H := Lib.hid h
  clear h hm hn hNn hK hsm hde hD
  go_enter Tryz.func98, Tryz.ntmps98
  go_wp2_with (first
    | (go_at_call 52; (with_reducible refine ((c1 _ ?_).out).mono ?_); (focus ((exact H.out); done)); rintro e wa ⟨rfl, hb_wa⟩; have hs_wa := hb_wa.size; (try simp at hs_wa))
    | ((go_at_call 33; (with_reducible refine ((c2 _ ?_).out).mono ?_); (focus (exact H.out.below hb_wa; done)); rintro e wb ⟨g, rfl, hg_wb, ho_wb, hb_wb⟩); have hs_wb := hb_wb.size; have HO := Lib.hid ho_wb; clear ho_wb)
    | ((go_at_call 34; (with_reducible refine ((c3 _ _ ?_).out).mono ?_); (focus (exact HO.out; done)); rintro e wc ⟨g', bs, rfl, hg_wc, hb_wc⟩); have hs_wc := hb_wc.size; have HG := Lib.hid hg_wc; clear hg_wc)
    | ((go_at_call 69; (with_reducible refine ((c4 _ _ _ ?_).out).mono ?_); (focus (exact HG.out.read; done)); rintro e wd ⟨rfl, hb_wd⟩)))
  refine bodyPost_ret (v := .int .i64 D) (by simp [results, Tryz.results98, go_sem]) rfl ⟨rfl, (by repeat (first | assumption | exact Below.refl _ _ | (refine below_chain ?_ (by assumption) (by first | omega | (simp <;> omega) | simp)) | (refine Below.alloc ?_ (by first | omega | (simp <;> omega) | simp) _) | (apply below_drewN) | (apply below_drew) | (refine Below.setCell ?_ (by first | omega | (simp <;> omega) | simp) _)))⟩
theorem iTrees_no (n : Int) (p : Option Addr) (c m : Nat) (rs : List Rn) (w : World) (h : Runs w p rs) (hm : rs.length = m) (hl : m ≤ 4000000000000000000) (hn : nOk n rs = false) :
    Calls Tryz.prog 98 #[.int .i64 n, .slice p m c] w fun e w' => e = .returned (.int .i64 (-1)) ∧ Below w.heap.size w w' := by
  have c1 := fun w h => Lib.hid (by have := iValid n p c rs false w h (by omega) hn; rw [hm] at this; exact this)
  have H := Lib.hid h
  clear h hm hn
  go_enter Tryz.func98, Tryz.ntmps98
  go_wp2_with ((go_at_call 52; (with_reducible refine ((c1 _ ?_).out).mono ?_); (focus ((exact H.out); done)); rintro e wa ⟨rfl, hb_wa⟩; have hs_wa := hb_wa.size; (try simp at hs_wa)))
  refine bodyPost_ret (v := .int .i64 (-1)) (by simp [results, Tryz.results98, go_sem]) rfl ⟨rfl, (by repeat (first | assumption | exact Below.refl _ _ | (refine below_chain ?_ (by assumption) (by first | omega | (simp <;> omega) | simp)) | (refine Below.alloc ?_ (by first | omega | (simp <;> omega) | simp) _) | (apply below_drewN) | (apply below_drew) | (refine Below.setCell ?_ (by first | omega | (simp <;> omega) | simp) _)))⟩
end Go.Proofs.YtoaomjchaihkaaaGreatDoor
