/-
  Traverses read the other way, cut in two, closed: what the promises say of them. No function of the program is named.
-/
import Derived.Test.YtgncjpakclbegaaHa
namespace Poly
open Go.Proofs.Ytgncjpakclbegaa (tot tot_append nth rsh lenOk rsh_len rsh_sum rsh_same nth_at at_nth list_ext shr sh nth_shr shr_len nth_rsh)
set_option linter.unusedVariables false

theorem tot_rev : ∀ l : List Int, tot l.reverse = tot l
  | [] => rfl
  | x :: l => by rw [List.reverse_cons, tot_append, tot_rev l]; simp only [tot]; omega
variable {L : List P2} {p : P2}
theorem gapT_rev : gapT L.reverse = gapT L := by
  unfold gapT xsT ysT; rw [List.map_reverse, List.map_reverse, tot_rev, tot_rev]
theorem lens_rev : tot (lensT L.reverse) = tot (lensT L) := by unfold lensT; rw [List.map_reverse, tot_rev]
theorem tvV_rev (h : tvV L = true) : tvV L.reverse = true := by
  have hl := tvV_len h
  unfold tvV
  rw [List.length_reverse, decide_eq_true hl, Bool.true_and, List.all_eq_true]
  exact fun s hs => tvV_mem h (List.mem_reverse.1 hs)
theorem gap_le : ∀ L : List P2, ((tot (xsT L)).natAbs : Int) + ((tot (ysT L)).natAbs : Int) ≤ tot (lensT L)
  | [] => by simp [xsT, ysT, lensT, tot]
  | s :: l => by
    have := gap_le l
    unfold xsT ysT lensT absP at *
    simp only [List.map_cons, tot]
    omega
theorem lens_nn (L : List P2) : 0 ≤ tot (lensT L) := by have := gap_le L; omega
/-! the way back -/
def ngP (s : P2) : P2 := (0 - s.1, 0 - s.2)
def revT (L : List P2) : List P2 := (L.map ngP).reverse
theorem revT_len : (revT L).length = L.length := by simp [revT]
theorem revT_cons (s : P2) (l : List P2) : revT (s :: l) = revT l ++ [ngP s] := by simp [revT]
theorem revT_end : ∀ (L : List P2) (p : P2), endT (endT p L) (revT L) = p
  | [], p => rfl
  | s :: l, p => by
    rw [revT_cons, endT_snoc]
    show adP (endT (endT (adP p s) l) (revT l)) (ngP s) = p
    rw [revT_end l]
    unfold adP ngP
    simp only
    congr 1 <;> omega
theorem revT_way : ∀ (L : List P2) (p q : P2), q ∈ wayT (endT p L) (revT L) → q ∈ wayT p L
  | [], p, q, h => h
  | s :: l, p, q, h => by
    rw [revT_cons, wayT_snoc] at h
    show q ∈ p :: wayT (adP p s) l
    rcases List.mem_append.1 h with h | h
    · exact List.mem_cons_of_mem _ (revT_way l (adP p s) q h)
    · have e : adP (endT (endT p (s :: l)) (revT l)) (ngP s) = p := by
        have := revT_end (s :: l) p
        rw [revT_cons, endT_snoc] at this
        exact this
      simp only [List.mem_singleton] at h
      rw [e] at h
      rw [h]; simp
theorem revT_ok (h : tvV L = true) : tvV (revT L) = true := by
  have hl := tvV_len h
  unfold tvV
  rw [revT_len, decide_eq_true hl, Bool.true_and, List.all_eq_true]
  intro s hs
  obtain ⟨t, ht, rfl⟩ := List.mem_map.1 (List.mem_reverse.1 hs)
  have := stP_bd (tvV_mem h ht)
  exact Pt.sv_in (by unfold ngP; simp only; omega) (by unfold ngP; simp only; omega) (by unfold ngP; simp only; omega) (by unfold ngP; simp only; omega)
theorem goT_back (h : goT p L = true) : goT (endT p L) (revT L) = true :=
  goT_of (revT_ok (goT_parts h).1) (fun q hq => (goT_parts h).2 q (revT_way L p q hq))
/-! a part of the way -/
theorem wayT_take (L : List P2) (p q : P2) (k : Nat) (h : q ∈ wayT p (L.take k)) : q ∈ wayT p L := by
  obtain ⟨i, hi, e⟩ := List.mem_iff_getElem.1 h
  rw [wayT_len] at hi
  have h1 := wayT_at (L.take k) p i (by omega)
  rw [List.getElem?_eq_getElem (by rw [wayT_len]; omega), e] at h1
  injection h1 with h1
  rw [List.length_take] at hi
  rw [List.take_take] at h1
  have h2 := wayT_at L p i (by omega)
  rw [show min i k = i by omega] at h1
  rw [h1]
  exact List.mem_of_getElem? h2
theorem wayT_drop : ∀ (k : Nat) (L : List P2) (p q : P2), k ≤ L.length → q ∈ wayT (endT p (L.take k)) (L.drop k) → q ∈ wayT p L
  | 0, L, p, q, _, h => h
  | k + 1, [], p, q, hk, h => by simp at hk
  | k + 1, s :: l, p, q, hk, h => by
    show q ∈ p :: wayT (adP p s) l
    exact List.mem_cons_of_mem _ (wayT_drop k l (adP p s) q (by simpa using hk) h)
theorem goT_take (h : goT p L = true) {k : Nat} (h1 : 1 ≤ k) (hk : k ≤ L.length) : goT p (L.take k) = true := by
  have ht := (goT_parts h).1
  have hl := tvV_len ht
  refine goT_of ?_ (fun q hq => (goT_parts h).2 q (wayT_take L p q k hq))
  unfold tvV
  rw [List.length_take, decide_eq_true (by omega), Bool.true_and, List.all_eq_true]
  exact fun s hs => tvV_mem ht (List.mem_of_mem_take hs)
theorem goT_drop (h : goT p L = true) {k : Nat} (hk : k < L.length) : goT (endT p (L.take k)) (L.drop k) = true := by
  have ht := (goT_parts h).1
  have hl := tvV_len ht
  refine goT_of ?_ (fun q hq => (goT_parts h).2 q (wayT_drop k L p q (by omega) hq))
  unfold tvV
  rw [List.length_drop, decide_eq_true (by omega), Bool.true_and, List.all_eq_true]
  exact fun s hs => tvV_mem ht (List.mem_of_mem_drop hs)
theorem endT_two (k : Nat) : endT (endT p (L.take k)) (L.drop k) = endT p L := by rw [← endT_app, List.take_append_drop]
theorem endT_gapxy {e g : P2} (he : endT p L = e) (hg : gapT L = g) : e.1 = p.1 + g.1 ∧ e.2 = p.2 + g.2 := by
  rw [← he, ← hg, endT_gap]; exact ⟨rfl, rfl⟩
/-! closed ways -/
theorem xs_cls : xsT (clsT L) = rsh (lensT L) (xsT L) := by
  refine list_ext (by rw [xsT_len, clsT_len, rsh_len, lensT_len]) (fun i hi => ?_)
  rw [xsT_len] at hi
  have hi2 : i < L.length := by rwa [clsT_len] at hi
  rw [nth_xs hi, cy_cls hi2]
theorem ys_cls : ysT (clsT L) = rsh (lensT L) (ysT L) := by
  refine list_ext (by rw [ysT_len, clsT_len, rsh_len, lensT_len]) (fun i hi => ?_)
  rw [ysT_len] at hi
  have hi2 : i < L.length := by rwa [clsT_len] at hi
  rw [nth_ys hi, cy_cls hi2]
theorem clsOk_parts (h : clsOk L = true) : tvV L = true ∧ lenOk (lensT L) = true ∧ tvV (clsT L) = true := by
  unfold clsOk at h
  simp only [Bool.and_eq_true] at h
  exact ⟨h.1.1, h.1.2, h.2⟩
theorem gap_cls (h : lenOk (lensT L) = true) : gapT (clsT L) = (0, 0) := by
  unfold gapT
  rw [xs_cls, ys_cls, rsh_sum h (by rw [xsT_len, lensT_len]), rsh_sum h (by rw [ysT_len, lensT_len])]
theorem cls_cls (h : lenOk (lensT L) = true) (h2 : lenOk (lensT (clsT L)) = true) : clsT (clsT L) = clsT L := by
  have hg := gap_cls h
  unfold gapT at hg
  injection hg with g1 g2
  apply List.ext_getElem?
  intro i
  by_cases hi : i < L.length
  · have h1 : (clsT (clsT L))[i]? = some (cy (clsT (clsT L)) i) := cy_lt (by rw [clsT_len, clsT_len]; exact hi)
    have h3 : (clsT L)[i]? = some (cy (clsT L) i) := cy_lt (by rw [clsT_len]; exact hi)
    have hi3 : i < (clsT L).length := by rw [clsT_len]; exact hi
    rw [h1, h3, cy_cls hi3, rsh_same h2 (by rw [xsT_len, lensT_len]) g1, rsh_same h2 (by rw [ysT_len, lensT_len]) g2, nth_xs hi3, nth_ys hi3]
  · rw [List.getElem?_eq_none (by rw [clsT_len, clsT_len]; omega), List.getElem?_eq_none (by rw [clsT_len]; omega)]
/-- what a step is given -/
noncomputable def dxT (L : List P2) : List Int := (List.range L.length).map (fun i => (cy (clsT L) i).1 - (cy L i).1)
noncomputable def dyT (L : List P2) : List Int := (List.range L.length).map (fun i => (cy (clsT L) i).2 - (cy L i).2)
theorem dx_shr : dxT L = shr (lensT L) (-tot (xsT L)) := by
  refine list_ext (by simp [dxT, shr_len, lensT_len]) (fun i hi => ?_)
  have hi2 : i < L.length := by simpa [dxT] using hi
  have hl : i < (lensT L).length := by rw [lensT_len]; exact hi2
  rw [nth_shr hl]
  have : nth (dxT L) i = (cy (clsT L) i).1 - (cy L i).1 := nth_at (by unfold dxT; rw [List.getElem?_map, List.getElem?_range hi2]; rfl)
  rw [this, cy_cls hi2]
  show nth (rsh (lensT L) (xsT L)) i - (cy L i).1 = _
  rw [nth_rsh hl, nth_xs hi2]
  omega
theorem dy_shr : dyT L = shr (lensT L) (-tot (ysT L)) := by
  refine list_ext (by simp [dyT, shr_len, lensT_len]) (fun i hi => ?_)
  have hi2 : i < L.length := by simpa [dyT] using hi
  have hl : i < (lensT L).length := by rw [lensT_len]; exact hi2
  rw [nth_shr hl]
  have : nth (dyT L) i = (cy (clsT L) i).2 - (cy L i).2 := nth_at (by unfold dyT; rw [List.getElem?_map, List.getElem?_range hi2]; rfl)
  rw [this, cy_cls hi2]
  show nth (rsh (lensT L) (ysT L)) i - (cy L i).2 = _
  rw [nth_rsh hl, nth_ys hi2]
  omega
/-! the area of a closed way -/
theorem area_way {S : List P2} {n : Nat} (hn : S.length = n) (h0 : 0 < n) (hg : gapT S = (0, 0)) :
    areaL ((wayT (0, 0) S).take n) = sumF (fun i => crP (cy (wayT (0, 0) S) i) (cy S i)) n := by
  have hlen : ((wayT (0, 0) S).take n).length = n := by rw [List.length_take, wayT_len]; omega
  have at_ : ∀ i, i ≤ n → (wayT (0, 0) S)[i]? = some (endT (0, 0) (S.take i)) := fun i hi => wayT_at S _ i (by omega)
  have wy : ∀ i, i < n → cy ((wayT (0, 0) S).take n) i = endT (0, 0) (S.take i) := fun i hi => by
    have h1 := cy_lt (L := (wayT (0, 0) S).take n) (i := i) (by rw [hlen]; exact hi)
    rw [List.getElem?_take, if_pos hi, at_ i (by omega)] at h1
    injection h1 with h1
    exact h1.symm
  have wz : ∀ i, i ≤ n → cy (wayT (0, 0) S) i = endT (0, 0) (S.take i) := fun i hi => by
    have h1 := cy_lt (L := wayT (0, 0) S) (i := i) (by rw [wayT_len]; omega)
    rw [at_ i hi] at h1
    injection h1 with h1
    exact h1.symm
  unfold areaL
  rw [hlen]
  refine sum_congr (fun i hi => ?_)
  rw [wy i hi, wz i (by omega)]
  have hstep : endT (0, 0) (S.take (i + 1)) = adP (endT (0, 0) (S.take i)) (cy S i) := by
    rw [List.take_add_one, cy_lt (by omega)]
    exact endT_snoc _ _ _
  have hnext : cy ((wayT (0, 0) S).take n) (i + 1) = endT (0, 0) (S.take (i + 1)) := by
    by_cases hl : i + 1 = n
    · have hw := cy_add (L := (wayT (0, 0) S).take n) 0
      rw [hlen, Nat.zero_add, ← hl] at hw
      rw [hl] at hw ⊢
      rw [hw, wy 0 h0, List.take_of_length_le (Nat.le_of_eq hn), endT_gap S, hg]
      rfl
    · exact wy (i + 1) (by omega)
  rw [hnext, hstep]
  unfold crP adP Pt.cr
  simp only
  grind
end Poly
