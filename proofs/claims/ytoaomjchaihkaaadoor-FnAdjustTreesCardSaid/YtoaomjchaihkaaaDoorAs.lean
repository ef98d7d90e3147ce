/-
  For every code the law FnAdjustTrees returns true: impl.AdjustHeights answers as the reference model does; each adjusted height times TreeWeight is the sum over all trees of the product of the weights times the height that TreeHeights gives. Condition: the package's error variable holds the error that its initialiser lays (the card ties that to the program's text, pruned to the packages that the law loads); every list of bytes is taken.
-/
import Derived.Test.YtoaomjchaihkaaaDoorEl
import Derived.Test.YtoaomjchaihkaaaDoorDNs
import Derived.Test.YtoaomjchaihkaaaDoorEv
import Derived.Test.YtoaomjchaihkaaaDoorTz
import Derived.Test.YtoaomjchaihkaaaDoorCode
namespace Go.Proofs.YtoaomjchaihkaaaDoor.fnAdjustTrees
open Go.ChangeShapes Go.WideShapes Go.ChangeAt Go.RowKit
set_option linter.unusedVariables false

noncomputable def sums (N : Nat) (rs : List Rn) (s : Nat) : List Int := rgL N (fun i => sumB N rs i s)
/-- the first nodes' sums with the set s -/
noncomputable def mixB (N : Nat) (rs : List Rn) (s j : Nat) : List Int := rgL N (fun i => if i < j then sumB N rs i (s + 1) else sumB N rs i s)
theorem sums_zero (N : Nat) (rs : List Rn) : sums N rs 0 = List.replicate N 0 := by
  refine List.ext_getElem? (fun j => ?_)
  unfold sums
  by_cases hj : j < N
  · rw [rgL_at _ hj, List.getElem?_replicate, if_pos hj]; rfl
  · rw [List.getElem?_eq_none (by rw [rgL_len]; omega), List.getElem?_replicate, if_neg hj]
theorem mix_zero (N : Nat) (rs : List Rn) (s : Nat) : mixB N rs s 0 = sums N rs s := rgL_congr (fun j _ => if_neg (by omega))
theorem mix_all (N : Nat) (rs : List Rn) (s : Nat) : mixB N rs s N = sums N rs (s + 1) := rgL_congr (fun j hj => if_pos hj)
theorem mix_set {N : Nat} {rs : List Rn} {s j : Nat} (hj : j < N) : (mixB N rs s j).set j (sumB N rs j s + termB N rs j s) = mixB N rs s (j + 1) := by
  unfold mixB
  rw [rgL_set]
  refine rgL_congr (fun i hi => ?_)
  by_cases e : i = j
  · subst e; rw [if_pos rfl, if_pos (by omega)]; rfl
  · rw [if_neg e]
    by_cases h : i < j
    · rw [if_pos h, if_pos (by omega)]
    · rw [if_neg h, if_neg (by omega)]
theorem sums_no {N : Nat} {rs : List Rn} {s : Nat} (h : ¬ IsTree N rs (idB rs 0 s)) : sums N rs (s + 1) = sums N rs s := rgL_congr (fun j _ => by
  show sumB N rs j s + termB N rs j s = _
  rw [termB_no j h, Int.add_zero])
theorem sums_all {n m : Nat} {rs : List Rn} (hn : nOk ((n + 1 : Nat) : Int) rs = true) (hm : rs.length = m) : sums (n + 1) rs (2 ^ m) = rgL (n + 1) (hT n rs) := by
  subst hm
  exact rgL_congr (fun j hj => sumB_all hn hj)
theorem termB_low {N : Nat} {rs : List Rn} {i : Nat} (hn : nOk (N : Int) rs = true) (hm : rs.length ≤ 9) (hi : i < N) (s : Nat) : -300000000000000 ≤ termB N rs i s ∧ termB N rs i s ≤ 300000000000000 := by
  by_cases h : IsTree N rs (idB rs 0 s)
  · obtain ⟨P, hP0, hP⟩ := pot_zero h.ends h.rk
    have hN := (nOk_true hn).1
    have hN6 := (nOk_true hn).2.1
    have hL : IsHt N (sub rs (idB rs 0 s)) ((List.range N).map (fun i => P (i : Nat))) := by
      have e : ∀ x : Int, 0 ≤ x → x < (N : Int) → htAt ((List.range N).map (fun i => P (i : Nat))) x = P x := fun x h0 h1 => by
        unfold htAt
        rw [List.getElem?_map, List.getElem?_range (by omega)]
        show P ((x.toNat : Nat) : Int) = _
        rw [show ((x.toNat : Nat) : Int) = x by omega]
      refine ⟨by simp, ?_, fun r hr => ?_⟩
      · rw [e 0 (by omega) (by omega)]; exact hP0
      · have h1 := h.ends r hr
        rw [e r.t (by omega) (by omega), e r.f (by omega) (by omega)]
        exact hP r hr
    have hb : ∀ r ∈ sub rs (idB rs 0 s), -100000 ≤ r.s ∧ r.s ≤ 100000 := fun r hr => by
      have := ok_runs hn r (h.asc.mem_sub (Nat.le_refl _) r hr)
      exact ⟨this.2.2.2.1, this.2.2.2.2⟩
    have hlow := ht_low (by omega) (by omega) h.ends (fun i hi => whole_same h.whole hi) hL hb
    rw [termB_yes h hL hi]
    have hz : -600000 ≤ htAt ((List.range N).map (fun i => P (i : Nat))) (i : Nat) ∧ htAt ((List.range N).map (fun i => P (i : Nat))) (i : Nat) ≤ 600000 := by
      have h2 : ((List.range N).map (fun i => P ((i : Nat) : Int)))[i]? = some (P (i : Nat)) := by rw [List.getElem?_map, List.getElem?_range hi]; rfl
      have := hlow i _ h2
      unfold htAt
      rw [Int.toNat_natCast, h2]
      exact this
    have hp := pwB_low rs s (fun r hr => ⟨(ok_runs hn r hr).2.1, (ok_runs hn r hr).2.2.1⟩)
    have hp9 := pow9_le hm
    have := abs_mul (a := pwB rs s) (b := htAt ((List.range N).map (fun i => P (i : Nat))) (i : Nat)) (x := 387420489) (y := 600000) (by omega) hz
    omega
  · rw [termB_no i h]; omega
theorem sumB_low {N : Nat} {rs : List Rn} {i : Nat} (hn : nOk (N : Int) rs = true) (hm : rs.length ≤ 9) (hi : i < N) {s : Nat} (hs : s ≤ 512) : -300000000000000000 ≤ sumB N rs i s ∧ sumB N rs i s ≤ 300000000000000000 := by
  have := sm_abs (n := s) (f := termB N rs i) (c := 300000000000000) (fun j _ => termB_low hn hm hi j)
  have h2 : (s : Int) * 300000000000000 ≤ 512 * 300000000000000 := Int.mul_le_mul_of_nonneg_right (by omega) (by omega)
  unfold sumB
  omega
theorem gen_exitT {Q : Exit → Act → World → Prop} {x : Exit} {a : Act} {W : World} (p : World → Prop) (h : p W) (k : ∀ W', p W' → Q x a W') : Q x a W := k W h
set_option maxHeartbeats 16000000 in
set_option maxRecDepth 100000 in
theorem walk (len cap : Nat) (p : Option Addr) (w : World) (hl : len ≤ 1048576) (h : Hid (Code' w (.slice p len cap))) (he : Hid (ErrV w)) :
    Calls Tryd.prog 8 #[.slice p len cap] w fun e w' => e = .returned (.bool true) ∧ Below w.heap.size w w' := by
  have hl' : ¬ (1048576 : Int) < (len : Int) := by omega
  go_enter Tryd.func8, Tryd.ntmps8
  go_upto_region 4 with (go_at_call 11; (with_reducible refine (drawAdjHeights_is _ _ h).mono ?_); rintro e wd ⟨N, m, rs, P, ⟨c, hmc, rfl⟩, ⟨hmm, ⟨hN2, hN6⟩, hm8, hns⟩, hR, hb_wd⟩; have hs_wd := hb_wd.size; have HR := Lib.hid (show RunsE _ _ _ from ⟨hR, he.out.below hb_wd⟩); have HM := Lib.hid hmm; clear hR)
  clear h hns hmm
  cases hy : adjOk (N : Int) rs
  · have c1 := fun w h => Lib.hid (iHeights_no N (some ⟨P, 0, none⟩) c m rs w h HM.out (by omega) hy)
    have c2 := fun w h => Lib.hid (sHeights_no N (some ⟨P, 0, none⟩) c m rs w h HM.out (by omega) hy)
    clear hy
    go_wp2_with (first | (go_at_call 12; (with_reducible refine ((c1 _ ?_).out).mono ?_); (focus ((exact HR.out); done)); rintro e wi ⟨⟨q, d, rfl⟩, hb_wi⟩; have hs_wi := hb_wi.size; (try simp at hs_wi)) | (go_at_call 13; (with_reducible refine ((c2 _ ?_).out).mono ?_); (focus ((exact (HR.out.below hb_wi).runs); done)); rintro e ws ⟨⟨q2, rfl⟩, hb_ws⟩; have hs_ws := hb_ws.size; (try simp at hs_ws)) | (go_at_call 14; (with_reducible refine (sameQuos_nil _ _ _ _ _).mono ?_); rintro e wt ⟨rfl, hb_wt⟩; have hs_wt := hb_wt.size; (try simp at hs_wt)))
    exact bodyPost_ret (v := .bool true) (by simp [results, Tryd.results8, go_sem]) rfl ⟨rfl, (by repeat (first | assumption | exact Below.refl _ _ | (refine below_chain ?_ (by assumption) (by first | omega | (simp <;> omega) | simp)) | (refine Below.alloc ?_ (by first | omega | (simp <;> omega) | simp) _) | (apply below_drewN) | (apply below_drew) | (refine Below.setCell ?_ (by first | omega | (simp <;> omega) | simp) _)))⟩
  · obtain ⟨n, hNn⟩ : ∃ n, N = n + 1 := ⟨N - 1, by omega⟩
    obtain ⟨hw0, hok0⟩ := adj_true hy hNn
    have hn := (whole_iff.1 hw0).1
    have hD : dT n rs ≠ 0 := by
      have := dT_pos (n := n) (rs := rs) (by rw [← hNn]; exact hw0) (by rw [← hNn]; exact hn)
      omega
    have hin : InN (n + 1) rs := by rw [← hNn]; exact nOk_in hn
    have hQ1 : (hqs n rs N).length = N := hqs_len _ _ _
    have c1 := fun w h => Lib.hid (iHeights_yes N n (some ⟨P, 0, none⟩) c m rs w h hy HM.out hNn)
    have c2 := fun w h => Lib.hid (sHeights_yes N n (some ⟨P, 0, none⟩) c m rs w h hy HM.out hNn)
    have cW := fun w h => Lib.hid (iWeight_yes N m c (some ⟨P, 0, none⟩) rs w h HM.out hn)
    have hq0 : ∀ j, j < N → (hqs n rs N)[j]? = some (Quo.T (hT n rs j) (dT n rs), Quo.L (hT n rs j) (dT n rs)) := fun j hj => hqs_at hj
    have hqv : ∀ j, j < N → Quo.qO (hT n rs j) (dT n rs) = true := fun j hj => okH_true.1 hok0 j (by omega)
    have hdw : heavy N rs = dT n rs := by
      have := heavy_det (n := n) (rs := rs) (by rw [← hNn]; exact hn)
      rw [← hNn] at this; exact this
    rw [hdw] at cW
    obtain ⟨qs, hqs'⟩ : ∃ q, hqs n rs N = q := ⟨_, rfl⟩
    rw [hqs'] at c1 c2 hQ1 hq0
    have HQ := Lib.hid (And.intro hQ1 (And.intro hq0 (And.intro hD (And.intro hqv (And.intro hn hNn)))))
    clear hqs' hQ1 hq0 hD hin hn hNn hy hw0 hok0 hqv hdw
    go_upto_region 6 with (first | ((go_at_call 12; (with_reducible refine ((c1 _ ?_).out).mono ?_); (focus ((exact HR.out); done)); rintro e wi ⟨gi, ci, rfl, hgi, oi, hb_wi⟩; have hs_wi := hb_wi.size; (try simp at hs_wi)); have OI := Lib.hid oi.quos; clear oi) | ((go_at_call 13; (with_reducible refine ((c2 _ ?_).out).mono ?_); (focus ((exact (HR.out.below hb_wi).runs); done)); rintro e ws ⟨gs, cs, rfl, hgs, os, hb_ws⟩; have hs_ws := hb_ws.size; (try simp at hs_ws)); have OS := Lib.hid os.quos; clear os))
    go_upto_region 8 with ((go_at_call 14; (with_reducible refine (sameQuos_is _ _ _ _ N qs _ ?_ ?_ HQ.out.1 (by omega)).mono ?_); (focus ((exact OI.out.below hb_ws); done)); (focus ((exact OS.out); done)); rintro e wt ⟨rfl, hb_wt⟩; have hs_wt := hb_wt.size; (try simp at hs_wt)))
    have hd : Below wd.heap.size wd wt := (by repeat (first | assumption | exact Below.refl _ _ | (refine below_chain ?_ (by assumption) (by first | omega | (simp <;> omega) | simp)) | (refine Below.alloc ?_ (by first | omega | (simp <;> omega) | simp) _) | (apply below_drewN) | (apply below_drew) | (refine Below.setCell ?_ (by first | omega | (simp <;> omega) | simp) _)))
    have hBW := hb_wd.trans (hd.mono hs_wd)
    have HBW := Lib.hid hBW
    have hsW := hBW.size
    have HR2 := Lib.hid (HR.out.below hd)
    have HO2 := Lib.hid ((OI.out.below hb_ws).below hb_wt)
    clear c1 c2 HR OI OS hd hBW hb_wd hb_wi hb_ws hb_wt hgi hgs hs_wd hs_wi hs_ws hs_wt
    have hm9 : ¬ (9 : Int) < (m : Int) := by omega
    have hmk := fun w => made_ints w N (by omega)
    have HG0 : Hid (Own (wt.alloc (.cells (madeCells (Array.replicate 1 (.int .i64 0)) (N * 1)) 3)) wt.heap.size 3 1 N N (sums N rs 0)) := Lib.hid (by
      have ho := Own.made wt 3 N 1 (by decide) (by unfold maxLen; omega)
      rw [sums_zero]; rw [Nat.mul_one] at ho ⊢; exact ho)
    have hN63 : (N : Int) ≤ 6 := by omega
    have hN1' : (1 : Int) ≤ (N : Int) := by omega
    go_wp2_with fail
    clear hmk
    simp only [Nat.mul_one] at HG0
    have HG1 : Hid (Own (wt.alloc (.cells (madeCells #[.int .i64 0] N) 3)) wt.heap.size 3 1 N N (sums N rs 0)) := HG0
    obtain ⟨Wg, hWg⟩ : ∃ W, W = wt.alloc (.cells (madeCells #[.int .i64 0] N) 3) := ⟨_, rfl⟩
    have hBg : Below wt.heap.size wt Wg := by rw [hWg]; exact (Below.refl _ _).alloc (Nat.le_refl _) _
    have hgs : Wg.heap.size = wt.heap.size + 1 := by rw [hWg]; simp
    obtain ⟨G, hGe⟩ : ∃ G, G = wt.heap.size := ⟨_, rfl⟩
    rw [← hWg] at HG1 ⊢
    rw [← hGe] at HG1 hgs ⊢
    clear HG0
    have HG0 := HG1
    have HGe := Lib.hid hGe
    clear HG1 hGe
    have HBg := Lib.hid hBg
    clear hWg hBg
    go_loopw [10, 11] (fun pw i wr => ∃ k : Nat, k ≤ m ∧ i = .int .i64 k ∧ pw = .int .i64 ((2 ^ k : Nat) : Int) ∧ Wg = wr) (fun _ i _ => m - (intOf i).toNat)
    case atStart => exact ⟨0, Nat.zero_le _, rfl, rfl, rfl⟩
    case round =>
      obtain ⟨k, hk, rfl, rfl, rfl⟩ := hrel
      by_cases hlt : k < m
      · have hlt' : (k : Int) < (m : Int) := by omega
        have hp : 2 ^ k ≤ 2 ^ 8 := Nat.pow_le_pow_right (by omega) (by omega)
        have hst : 2 ^ (k + 1) = 2 * 2 ^ k := by rw [Nat.pow_succ, Nat.mul_comm]
        obtain ⟨pk, hpk⟩ : ∃ p : Nat, 2 ^ k = p := ⟨_, rfl⟩
        rw [hpk] at hp hst ⊢
        have HST := Lib.hid hst
        have q1 : IntKind.i64.wrap (2 * (pk : Int)) = ((2 * pk : Nat) : Int) := by rw [IntKind.wrap_i64]; omega
        clear hst hpk
        go_wp2_with fail
        go_roundw
        case rel => exact ⟨k + 1, by omega, by go_num, by rw [HST.out]; exact congrArg _ (by omega), by first | trivial | rfl⟩
        case measure => simp [intOf]; omega
      · have e : k = m := by omega
        subst e
        have hM512 : 2 ^ k ≤ 2 ^ 8 := Nat.pow_le_pow_right (by omega) (by omega)
        have hsall : sums N rs (2 ^ k) = rgL N (hT n rs) := by
          have h0 := HQ.out.2.2.2.2
          have := sums_all (n := n) (m := k) (rs := rs) (by rw [← h0.2]; exact h0.1) HM.out
          rw [← h0.2] at this; exact this
        obtain ⟨M, hM⟩ : ∃ M : Nat, 2 ^ k = M := ⟨_, rfl⟩
        rw [hM] at hM512 hsall ⊢
        have HSA := Lib.hid hsall
        clear hM hsall hk hlt
        go_wp2_with fail
        go_loopw [12] (fun sv wr => ∃ s : Nat, s ≤ M ∧ sv = .int .i64 s ∧ Own wr G 3 1 N N (sums N rs s) ∧ Below wt.heap.size wt wr) (fun sv _ => M - (intOf sv).toNat)
        case atStart => exact ⟨0, Nat.zero_le _, rfl, HG0.out, HBg.out⟩
        case round =>
          clear HG0
          rename World => wr
          obtain ⟨s, hs, rfl, hog, hbr⟩ := hrel
          have hgl := hog.lt
          have HO := Lib.hid (And.intro hog hbr)
          clear hog hbr
          by_cases hlt : s < M
          · have hlt' : (s : Int) < (M : Int) := by omega
            go_wp2_with fail
            have hTe := Own.empty wr 3 1
            have hba : Below wr.heap.size wr (wr.alloc (.cells #[] 3)) := (Below.refl _ _).alloc (Nat.le_refl _) _
            go_loopw [13, 14, 15, 16] (fun t pr b i wq => ∃ (j g cap : Nat), j ≤ k ∧ i = .int .i64 j ∧ t = .slice (some ⟨g, 0, none⟩) (idB (rs.take j) 0 s).length cap ∧ pr = .int .i64 (pwB (rs.take j) s) ∧ b = .int .i64 ((s / 2 ^ j : Nat) : Int) ∧ G < g ∧ Own wq g 3 1 (idB (rs.take j) 0 s).length cap (idB (rs.take j) 0 s) ∧ Own wq G 3 1 N N (sums N rs s) ∧ Below wt.heap.size wt wq) (fun _ _ _ i _ => k - (intOf i).toNat)
            case atStart => exact ⟨0, wr.heap.size, 0, Nat.zero_le _, rfl, rfl, rfl, by simp, hgl, hTe, HO.out.1.below hba, HO.out.2.trans (hba.mono (HO.out.2.size))⟩
            case round =>
              clear hTe hba
              rename World => wq
              obtain ⟨j, g, cap, hj, rfl, rfl, rfl, rfl, hGg, hot, hos, hbq⟩ := hrel
              have HX := Lib.hid (And.intro hot (And.intro hos hbq))
              have hgq := hot.lt
              have hsq := hbq.size
              clear hot hos hbq
              by_cases hjk : j < k
              · have hjk' : (j : Int) < (k : Int) := by omega
                obtain ⟨B', o', r, heq, hr, hBl, e1, e2, e3, e4⟩ := (HR2.out.below HX.out.2.2).runs.at (i := j) (by rw [HM.out]; exact hjk)
                cases heq
                rw [Nat.zero_add] at e4
                have hi1 := idB_take hr s
                have hp1 := pwB_take hr s
                have hwb : ∀ r ∈ rs, 1 ≤ r.g ∧ r.g ≤ 9 := fun r hr => ⟨(ok_runs HQ.out.2.2.2.2.1 r hr).2.1, (ok_runs HQ.out.2.2.2.2.1 r hr).2.2.1⟩
                have hpl := pwB_low (rs.take (j + 1)) s (fun r hr => hwb r (List.mem_of_mem_take hr))
                have hpe := pow9_le (m := (rs.take (j + 1)).length) (by rw [List.length_take]; omega)
                have hil := idB_len (rs.take j) 0 s
                rw [List.length_take, HM.out, Nat.min_eq_left (by omega)] at hil
                have hhp := half_pow s j
                have hhq : s / 2 ^ (j + 1) = s / 2 ^ j / 2 := by rw [Nat.pow_succ, Nat.div_div_eq_div_mul]
                obtain ⟨b0, hb0⟩ : ∃ b, s / 2 ^ j = b := ⟨_, rfl⟩
                rw [hb0] at hi1 hp1 hhq ⊢
                have hb0l : b0 ≤ 512 := by rw [← hb0]; exact Nat.le_trans (Nat.div_le_self _ _) (by omega)
                obtain ⟨p0, hp0⟩ : ∃ p, pwB (rs.take j) s = p := ⟨_, rfl⟩
                rw [hp0] at hp1 ⊢
                obtain ⟨T0, hT0⟩ : ∃ T, idB (rs.take j) 0 s = T := ⟨_, rfl⟩
                rw [hT0] at hi1 HX hil ⊢
                obtain ⟨l0, hl0⟩ : ∃ l, T0.length = l := ⟨_, rfl⟩
                rw [hl0] at HX hil ⊢
                by_cases hbit : b0 % 2 = 1
                · rw [if_pos hbit] at hi1 hp1
                  have m1 : (b0 : Int).tmod 2 = 1 := by rw [Int.tmod_eq_emod_of_nonneg (by omega)]; omega
                  have m2 : (b0 : Int) % 2 = 1 := by omega
                  have qw : IntKind.i64.wrap (p0 * r.g) = p0 * r.g := by rw [← hp1, IntKind.wrap_i64]; omega
                  have HI := Lib.hid (And.intro hi1 (And.intro hp1 (And.intro hhq hl0)))
                  clear hi1 hp1 hpl hpe hhp hhq hb0 hp0 hT0 hl0 hwb e1 e2 e3 hbit
                  have hll : l0 ≤ 9 := by omega
                  go_upto_region 27 with (at_builtin; refine wp_append _ rfl _ _ 39 rfl 3 _ 1 8 Tryd.underlying39 info_int rfl (by decide) (by decide) g l0 cap T0 rfl (HX.out.1.alloc _) _ 1 1 [(j : Int)] rfl rfl (one_cellA _ _ _) (by omega) ?_; intro g2 d2 w2 hown2 hg2 hloc2 hsz2; have HN := Lib.hid (And.intro hown2 (And.intro hg2 hloc2)); clear hown2 hg2 hloc2)
                  have hba : Below wq.heap.size wq (wq.alloc (.cells #[.int .i64 (j : Int)] 3)) := (Below.refl _ _).alloc (Nat.le_refl _) _
                  have hGg2 : G < g2 := HN.out.2.2.elim (fun e => by omega) (fun e => by simp at e; omega)
                  have hB2 : Below wt.heap.size wt w2 := below_gr (HX.out.2.2.trans (hba.mono hsq)) HN.out.2.1 (by have := HGe.out; omega) (by simp; omega)
                  have hos2 : Own w2 G 3 1 N N (sums N rs s) := (HX.out.2.1.below hba).grown HN.out.2.1 (by omega)
                  obtain ⟨B2, o2, r2, heq2, hr2, -, -, -, -, f4⟩ := (HR2.out.below hB2).runs.at (i := j) (by rw [HM.out]; exact hjk)
                  cases heq2
                  obtain rfl : r = r2 := by rw [hr] at hr2; exact Option.some.inj hr2
                  rw [Nat.zero_add] at f4
                  clear hr hr2
                  go_wp2_with fail
                  go_roundw
                  case rel => exact ⟨j + 1, g2, d2, by omega, by go_num, by rw [HI.out.1, List.length_append, HI.out.2.2.2]; rfl, by rw [HI.out.2.1], by rw [HI.out.2.2.1]; first | rfl | exact congrArg _ (by omega), hGg2, by rw [HI.out.1, List.length_append, HI.out.2.2.2]; exact HN.out.1, hos2, hB2⟩
                  case measure => simp [intOf]; omega
                · rw [if_neg hbit] at hi1 hp1
                  have m0 : b0 % 2 = 0 := by omega
                  have m1 : (b0 : Int).tmod 2 = 0 := by rw [Int.tmod_eq_emod_of_nonneg (by omega)]; omega
                  have m2 : (b0 : Int) % 2 = 0 := by omega
                  rw [List.append_nil] at hi1
                  rw [Int.mul_one] at hp1
                  have HI := Lib.hid (And.intro hi1 (And.intro hp1 (And.intro hhq hl0)))
                  clear hi1 hp1 hpl hpe hhp hhq hb0 hp0 hT0 hl0 hr hwb e1 e2 e3 e4 hbit
                  go_wp2_with fail
                  go_roundw
                  case rel => exact ⟨j + 1, g, cap, by omega, by go_num, by rw [HI.out.1, HI.out.2.2.2], by rw [HI.out.2.1], by rw [HI.out.2.2.1]; first | rfl | exact congrArg _ (by omega), hGg, by rw [HI.out.1, HI.out.2.2.2]; exact HX.out.1, HX.out.2.1, HX.out.2.2⟩
                  case measure => simp [intOf]; omega
              · obtain rfl : j = k := by omega
                have hta : rs.take j = rs := List.take_of_length_le (by rw [HM.out]; omega)
                rw [hta] at HX ⊢
                have hil := idB_len rs 0 s
                have HNT : Hid (n = N - 1 ∧ 1 ≤ N) := Lib.hid (by have := HQ.out.2.2.2.2.2; omega)
                by_cases hlen : (idB rs 0 s).length = n
                · have hwb : ∀ r ∈ rs, 1 ≤ r.g ∧ r.g ≤ 9 := fun r hr => ⟨(ok_runs HQ.out.2.2.2.2.1 r hr).2.1, (ok_runs HQ.out.2.2.2.2.1 r hr).2.2.1⟩
                  have hp1 := pwB_low rs s hwb
                  have hp9 := pow9_le (m := rs.length) (by rw [HM.out]; omega)
                  have htl := fun i (hi : i < N) => termB_low (i := i) HQ.out.2.2.2.2.1 (by rw [HM.out]; omega) hi s
                  have hsl := fun i (hi : i < N) => sumB_low (i := i) (s := s) HQ.out.2.2.2.2.1 (by rw [HM.out]; omega) hi (by omega)
                  have heq : (n : Int) = (N : Int) - 1 := by have := HNT.out; omega
                  rw [hlen] at HX ⊢
                  have hjl : j ≤ 8 := hm8
                  by_cases hT : IsTree N rs (idB rs 0 s)
                  · have cH := fun w h hq => Lib.hid (iTreeHeights_yes N j n (some ⟨P, 0, none⟩) (some ⟨g, 0, none⟩) c cap rs (idB rs 0 s) w h hq HM.out hlen hT)
                    have HTM : Hid ((∀ L, IsHt N (sub rs (idB rs 0 s)) L → ∀ i, i < N → termB N rs i s = pwB rs s * htAt L i) ∧ (∀ i, i < N → -300000000000000 ≤ termB N rs i s ∧ termB N rs i s ≤ 300000000000000) ∧ (∀ i, i < N → -300000000000000000 ≤ sumB N rs i s ∧ sumB N rs i s ≤ 300000000000000000)) := Lib.hid ⟨fun L hL i hi => termB_yes hT hL hi, htl, hsl⟩
                    obtain ⟨p0, hp0⟩ : ∃ p, pwB rs s = p := ⟨_, rfl⟩
                    rw [hp0] at HTM ⊢
                    clear hwb hp1 hp9 htl hsl hT hta hil hp0
                    go_wp2_with ((go_at_call 32; (with_reducible refine ((cH _ ?_ ?_).out).mono ?_); (focus ((exact (HR2.out.below HX.out.2.2).runs); done)); (focus ((exact HX.out.1.ints); done)); rintro e wh ⟨L, gh, rfl, hL, hgh, hoh, hb_wh⟩; have hs_wh := hb_wh.size; (try simp at hs_wh)))
                    have hGh : G < gh := by have := HX.out.2.1.lt; omega
                    have HTL : Hid ((∀ i, i < N → termB N rs i s = p0 * htAt L i) ∧ L.length = N) := Lib.hid ⟨HTM.out.1 L hL, hL.len⟩
                    have HO2' := Lib.hid (And.intro hoh (And.intro (HX.out.2.1.below hb_wh) (HX.out.2.2.trans (hb_wh.mono hsq))))
                    clear hL hgh hoh hb_wh cH
                    go_loopw [19] (fun i wr => ∃ j : Nat, j ≤ N ∧ i = .int .i64 j ∧ Own wr G 3 1 N N (mixB N rs s j) ∧ Own wr gh 3 1 N N L ∧ Below wt.heap.size wt wr) (fun i _ => N - (intOf i).toNat)
                    case atStart => exact ⟨0, Nat.zero_le _, rfl, by rw [mix_zero]; exact HO2'.out.2.1, HO2'.out.1, HO2'.out.2.2⟩
                    case round =>
                      clear HO2'
                      rename World => wr
                      obtain ⟨i, hi, rfl, hog, hoh, hbr⟩ := hrel
                      by_cases hlt3 : i < N
                      · have hlt4 : (i : Int) < (N : Int) := by omega
                        have eg : (mixB N rs s i)[i]? = some (sumB N rs i s) := by unfold mixB; rw [rgL_at _ hlt3, if_neg (by omega)]
                        have hLl : i < L.length := by rw [HTL.out.2]; exact hlt3
                        have eh : L[i]? = some (htAt L i) := by unfold htAt; rw [Int.toNat_natCast, List.getElem?_eq_getElem hLl]; rfl
                        have cg := hog.cells eg
                        have ch := hoh.cells eh
                        have fg := hog.frozen i
                        have t1 := HTL.out.1 i hlt3
                        have t2 := HTM.out.2.1 i hlt3
                        have t3 := HTM.out.2.2 i hlt3
                        have hms := mix_set (N := N) (rs := rs) (s := s) hlt3
                        obtain ⟨sz, hsz⟩ : ∃ z, sumB N rs i s = z := ⟨_, rfl⟩
                        rw [hsz] at cg t3 hms
                        obtain ⟨tz, htz⟩ : ∃ z, termB N rs i s = z := ⟨_, rfl⟩
                        rw [htz] at t1 t2 hms
                        obtain ⟨hz, hhz⟩ : ∃ z, htAt L i = z := ⟨_, rfl⟩
                        rw [hhz] at ch t1
                        have q1 : IntKind.i64.wrap (p0 * hz) = tz := by rw [← t1, IntKind.wrap_i64]; omega
                        have q2 : IntKind.i64.wrap (sz + tz) = sz + tz := by rw [IntKind.wrap_i64]; omega
                        have hGr := hbr.size
                        have HW := Lib.hid (And.intro hms (And.intro hog (And.intro hoh hbr)))
                        clear eg eh hLl t1 t2 t3 hms hsz htz hhz hog hoh hbr
                        go_upto_region 34 with fail
                        go_region
                        go_wp2_with fail
                        go_roundw
                        case rel =>
                          refine ⟨i + 1, by omega, by go_num, ?_, ?_, ?_⟩
                          · rw [← HW.out.1]
                            exact (HW.out.2.1.set i (sz + tz) (by unfold mixB; rw [rgL_len]; exact hlt3)).block (w' := World.drew _) rfl
                          · exact (HW.out.2.2.1.setOther (a := ⟨G, i, none⟩) (by dsimp only; omega) _).block (w' := World.drew _) rfl
                          · exact below_drew (HW.out.2.2.2.setCell (p := ⟨G, i, none⟩) (by have := HGe.out; dsimp only; omega) _)
                        case measure => simp [intOf]; omega
                      · obtain rfl : i = N := by omega
                        rw [mix_all] at hog
                        have HW := Lib.hid (And.intro hog hbr)
                        clear hog hbr hoh
                        go_wp2_with fail
                        go_roundw
                        case rel => exact ⟨s + 1, by omega, by go_num, HW.out.1, HW.out.2⟩
                        case measure => simp [intOf]; omega
                  · have HNO := Lib.hid (sums_no (N := N) (rs := rs) (s := s) hT)
                    have hTf : isT (N : Int) rs (idB rs 0 s) = false := by
                      cases h : isT (N : Int) rs (idB rs 0 s)
                      · rfl
                      · exact absurd (isT_true.1 h) hT
                    have cH := fun w h hq => Lib.hid (iTreeHeights_no (N : Int) j n (some ⟨P, 0, none⟩) (some ⟨g, 0, none⟩) c cap rs (idB rs 0 s) w h hq HM.out hlen (by omega) (by omega) hTf)
                    obtain ⟨p0, hp0⟩ : ∃ p, pwB rs s = p := ⟨_, rfl⟩
                    rw [hp0]
                    clear hwb hp1 hp9 htl hsl hT hta hil hp0 hTf
                    go_wp2_with ((go_at_call 32; (with_reducible refine ((cH _ ?_ ?_).out).mono ?_); (focus ((exact (HR2.out.below HX.out.2.2).runs); done)); (focus ((exact HX.out.1.ints); done)); rintro e wh ⟨rfl, hb_wh⟩; have hs_wh := hb_wh.size; (try simp at hs_wh)))
                    have HW := Lib.hid (And.intro (HX.out.2.1.below hb_wh) (HX.out.2.2.trans (hb_wh.mono hsq)))
                    clear hb_wh cH
                    go_loopw [19] (fun i wr => i = .int .i64 0 ∧ wh = wr) (fun _ _ => 0)
                    case atStart => exact ⟨rfl, rfl⟩
                    case round =>
                      obtain ⟨rfl, rfl⟩ := hrel
                      go_wp2_with fail
                      go_roundw
                      case rel => exact ⟨s + 1, by omega, by go_num, by rw [HNO.out]; exact HW.out.1, HW.out.2⟩
                      case measure => simp [intOf]; omega
                · have hno := sums_no (N := N) (rs := rs) (s := s) (fun h => hlen (by have := h.len; have := HNT.out; omega))
                  obtain ⟨l0, hl0⟩ : ∃ l, (idB rs 0 s).length = l := ⟨_, rfl⟩
                  rw [hl0] at HX hlen ⊢
                  have hne : ¬ ((l0 : Int) = (N : Int) - 1) := by have := HNT.out; omega
                  have HNO := Lib.hid hno
                  clear hno hta hil hl0
                  go_wp2_with fail
                  go_roundw
                  case rel => exact ⟨s + 1, by omega, by go_num, by rw [HNO.out]; exact HX.out.2.1, HX.out.2.2⟩
                  case measure => simp [intOf]; omega
          · obtain rfl : s = M := by omega
            have hHT := HSA.out
            rw [hHT] at HO
            have hL6 := fun j (hj : j < N) => hT_low (n := n) (j := j) HQ.out.2.2.2.2.1 (by have := HQ.out.2.2.2.2.2; omega) (by have := HQ.out.2.2.2.2.2; omega)
            have hDl := dT_low (n := n) HQ.out.2.2.2.2.1 (by have := HQ.out.2.2.2.2.2; omega)
            have HB := Lib.hid (And.intro hL6 hDl)
            clear hHT hL6 hDl
            go_wp2_with ((go_at_call 33; (with_reducible refine ((cW _ ?_).out).mono ?_); (focus ((exact (HR2.out.below HO.out.2).runs); done)); rintro e wx ⟨rfl, hb_wx⟩; have hs_wx := hb_wx.size; (try simp at hs_wx)))
            have HO3 := Lib.hid (And.intro (HO.out.1.below hb_wx) (HO.out.2.trans (hb_wx.mono HO.out.2.size)))
            have hGx := HO3.out.1.lt
            clear hb_wx
            go_loopw [21] (fun i wr => ∃ j : Nat, j ≤ N ∧ i = .int .i64 j ∧ Below wx.heap.size wx wr) (fun i _ => N - (intOf i).toNat)
            case atStart => exact ⟨0, Nat.zero_le _, rfl, Below.refl _ _⟩
            case round =>
              rename World => wr
              obtain ⟨j, hj, rfl, hbr⟩ := hrel
              by_cases hlt5 : j < N
              · have hlt6 : (j : Int) < (N : Int) := by omega
                have hlb := HB.out.1 j hlt5
                have hDl := HB.out.2
                have hqv := HQ.out.2.2.2.1 j hlt5
                have hqs := HQ.out.2.1 j hlt5
                have cg := (HO3.out.1.below hbr).cells (show (rgL N (hT n rs))[j]? = some (hT n rs j) from rgL_at _ hlt5)
                have hwt := HO3.out.2.trans (hbr.mono HO3.out.2.size)
                obtain ⟨B', o', qx, he, hx, hB, qa, qb⟩ := (HO2.out.below hwt).at (i := j) (by rw [HQ.out.1]; exact hlt5)
                cases he
                rw [hqs] at hx
                cases hx
                rw [Nat.zero_add] at qa qb
                have hof := Quo.of_is (N := hT n rs j) (D := dT n rs) (by omega) HQ.out.2.2.1 (by omega)
                have hof2 := hof.2 hqv
                have c5 := fun w => Lib.hid (iof_any (hT n rs j) (dT n rs) w)
                rw [hof.1, hqv, hof2.1, hof2.2] at c5
                obtain ⟨a, ha⟩ : ∃ z, Quo.T (hT n rs j) (dT n rs) = z := ⟨_, rfl⟩
                obtain ⟨b, hb⟩ : ∃ z, Quo.L (hT n rs j) (dT n rs) = z := ⟨_, rfl⟩
                dsimp only at qa qb
                rw [ha] at c5 qa
                rw [hb] at c5 qb
                obtain ⟨H, hH⟩ : ∃ z, hT n rs j = z := ⟨_, rfl⟩
                rw [hH] at c5 cg
                obtain ⟨D, hD⟩ : ∃ z, dT n rs = z := ⟨_, rfl⟩
                rw [hD] at c5 ⊢
                have HBR := Lib.hid hbr
                clear hlb hDl hqv hqs hwt hof hof2 ha hb hH hD hbr
                go_upto_region 40 with ((go_at_call 34; (with_reducible refine ((c5 _).out).mono ?_); rintro e wz ⟨rfl, hb_wz⟩; have hs_wz := hb_wz.size; (try simp at hs_wz)))
                have hZ := Cell2.new wz a b 31
                have hBz := hb_wz.alloc hs_wz (.cells #[.int .i64 a, .int .i64 b] 31)
                obtain ⟨U, hU⟩ : ∃ U, U = wz.alloc (.cells #[.int .i64 a, .int .i64 b] 31) := ⟨_, rfl⟩
                obtain ⟨Z, hZe⟩ : ∃ Z, Z = wz.heap.size := ⟨_, rfl⟩
                rw [← hU] at hZ hBz ⊢
                rw [← hZe] at hZ ⊢
                obtain ⟨z1, z2, z3, z4⟩ := hZ
                have p1 := cell_below_keep hBz qa
                have p2 := cell_below_keep hBz qb
                have HBU := Lib.hid (HBR.out.trans (hBz.mono HBR.out.size))
                clear c5 hBz hb_wz hs_wz cg qa qb hU hZe HBR hlt
                have hj0 : 0 < N := by omega
                first
                  | go_region_held3 (fun W => W.cell? ⟨Z, 0, none⟩ = some (.int .i64 a) ∧ W.cell? ⟨Z, 1, none⟩ = some (.int .i64 b) ∧ W.cell? ⟨gi, j * 2, none⟩ = some (.int .i64 a) ∧ W.cell? ⟨gi, j * 2 + 1, none⟩ = some (.int .i64 b)) (first | (go_keep; done) | (refine ⟨?_, ?_, ?_, ?_⟩ <;> (first | ((with_reducible refine cell_below_keep (by with_reducible assumption) ?_); with_reducible assumption) | ((with_reducible refine cell_set_keep _ ?_ ?_); (focus (dsimp only; omega)); (with_reducible refine cell_set_keep _ ?_ ?_); (focus (dsimp only; omega)); with_reducible assumption)))) (fail)
                  | fail
                all_goals
                  go_wp2_with fail
                  go_roundw
                  case rel => exact ⟨j + 1, by omega, by go_num, below_drew HBU.out⟩
                  case measure => simp [intOf]; omega
              · have HBR := Lib.hid (HBW.out.trans ((HO3.out.2.trans (hbr.mono HO3.out.2.size)).mono hsW))
                go_wp2_with fail
                go_ret
                exact ⟨rfl, HBR.out⟩

end Go.Proofs.YtoaomjchaihkaaaDoor.fnAdjustTrees
