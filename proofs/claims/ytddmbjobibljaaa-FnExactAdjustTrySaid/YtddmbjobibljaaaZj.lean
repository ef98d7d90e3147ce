/-
  The reference model's NetSource.
  The reference model's NetMatrix and NetTrees.
-/
import Derived.Test.YtddmbjobibljaaaZb
import Derived.Test.YtddmbjobibljaaaZf
import Derived.Deep.Cut
import Derived.Test.YtddmbjobibljaaaZc
namespace Go.Proofs.Ytddmbjobibljaaa
open Go.RowKit
set_option linter.unusedVariables false

/-- a number for each node -/
def rgL (n : Nat) (f : Nat → Int) : List Int := (List.range n).map f
theorem rgL_len (n : Nat) (f : Nat → Int) : (rgL n f).length = n := by simp [rgL]
theorem rgL_at {n i : Nat} (f : Nat → Int) (h : i < n) : (rgL n f)[i]? = some (f i) := by unfold rgL; rw [List.getElem?_map, List.getElem?_range h]; rfl
theorem rgL_set {n i : Nat} (f : Nat → Int) (y : Int) : (rgL n f).set i y = rgL n (fun j => if j = i then y else f j) := by
  refine List.ext_getElem? (fun j => ?_)
  rw [List.getElem?_set, rgL_len]
  by_cases e : i = j
  · subst e
    rw [if_pos rfl]
    by_cases h : i < n
    · rw [if_pos h, rgL_at _ h, if_pos rfl]
    · rw [if_neg h, List.getElem?_eq_none (by rw [rgL_len]; omega)]
  · rw [if_neg e]
    by_cases h : j < n
    · rw [rgL_at _ h, rgL_at _ h, if_neg (Ne.symm e)]
    · rw [List.getElem?_eq_none (by rw [rgL_len]; omega), List.getElem?_eq_none (by rw [rgL_len]; omega)]
theorem rgL_congr {n : Nat} {f g : Nat → Int} (h : ∀ i, i < n → f i = g i) : rgL n f = rgL n g := List.ext_getElem? (fun j => by
  by_cases hj : j < n
  · rw [rgL_at _ hj, rgL_at _ hj, h j hj]
  · rw [List.getElem?_eq_none (by rw [rgL_len]; omega), List.getElem?_eq_none (by rw [rgL_len]; omega)])
theorem ok_runs {n : Int} {rs : List Rn} (hn : nOk n rs = true) : ∀ r ∈ rs, r.f ≠ r.t ∧ 1 ≤ r.g ∧ r.g ≤ 9 ∧ -100000 ≤ r.s ∧ r.s ≤ 100000 := fun r hr => by
  obtain ⟨j, hj⟩ := List.getElem?_of_mem hr
  have := rOk_true ((nOk_true hn).2.2.2 j r hj)
  exact ⟨this.2.2.2.2.1, this.2.2.2.2.2.2.2.1, this.2.2.2.2.2.2.2.2, this.2.2.2.2.2.1, this.2.2.2.2.2.2.1⟩
theorem srcs_step {rs : List Rn} {k : Nat} {r : Rn} (hr : rs[k]? = some r) (i : Nat) : srcs (rs.take (k + 1)) i = srcs (rs.take k) i + r.g * r.s * inc r i := lsm_take hr _
end Go.Proofs.Ytddmbjobibljaaa
namespace Go.Proofs.Ytddmbjobibljaaa
open Go.RowKit
set_option linter.unusedVariables false

/-- a number of a matrix written -/
def putF (f : Mx) (i j : Nat) (v : Int) : Mx := fun x y => if x = i ∧ y = j then v else f x y
theorem mkL_put {m i j : Nat} (f : Mx) (v : Int) (hi : i < m) : (mkL m f).set i (((List.range m).map (fun y => f i y)).set j v) = mkL m (putF f i j v) := by
  refine List.ext_getElem? (fun x => ?_)
  rw [List.getElem?_set, mkL_len]
  by_cases e : i = x
  · subst e
    rw [if_pos rfl, if_pos hi, mkL_row hi]
    congr 1
    refine List.ext_getElem? (fun y => ?_)
    rw [List.getElem?_set, List.length_map, List.length_range]
    by_cases e2 : j = y
    · subst e2
      rw [if_pos rfl]
      by_cases hj : j < m
      · rw [if_pos hj, List.getElem?_map, List.getElem?_range hj]; simp [putF]
      · rw [if_neg hj, List.getElem?_eq_none (by simp; omega)]
    · rw [if_neg e2]
      by_cases hy : y < m
      · rw [List.getElem?_map, List.getElem?_map, List.getElem?_range hy]
        simp [putF, Ne.symm e2]
      · rw [List.getElem?_eq_none (by simp; omega), List.getElem?_eq_none (by simp; omega)]
  · rw [if_neg e]
    by_cases hx : x < m
    · rw [mkL_row hx, mkL_row hx]
      congr 1
      refine List.map_congr_left (fun y _ => ?_)
      unfold putF; rw [if_neg (by intro h; exact e h.1.symm)]
    · rw [List.getElem?_eq_none (by rw [mkL_len]; omega), List.getElem?_eq_none (by rw [mkL_len]; omega)]
theorem gb_one2 (w : World) (B i : Nat) (v : Value) : w.grownBy (w.setCell ⟨B, i, none⟩ v) (some B) := ⟨rfl, rfl, rfl, by simp, fun k hk hne => Deep.blk_setCell_other _ _ _ _ (by simpa using hne)⟩
/-- a number of a block of rows written -/
theorem GridO.putF {w : World} {lo g cap m i j b d : Nat} {bs : List (Nat × Nat)} {f : Mx} (h : GridO w 3 23 lo g cap bs (mkL m f)) (hb : bs[i]? = some (b, d)) (hi : i < m) (hj : j < m) (v : Int) : GridO (w.setCell ⟨b, j, none⟩ (.int .i64 v)) 3 23 lo g cap bs (mkL m (putF f i j v)) := by
  have hr := mkL_row (f := f) hi
  have := h.setRow hb hr (r' := ((List.range m).map (fun y => f i y)).set j v) (by rw [List.length_set]) (by rw [List.length_set]; exact (h.row i b d _ hb hr).set j v (by simp; exact hj)) (gb_one2 w b j (.int .i64 v))
  rw [mkL_put f v hi] at this
  exact this
/-- the cells of a row -/
theorem GridO.rowC {w : World} {lo g cap m i : Nat} {bs : List (Nat × Nat)} {f : Mx} (h : GridO w 3 23 lo g cap bs (mkL m f)) (hi : i < m) :
    ∃ b d, bs[i]? = some (b, d) ∧ w.cell? ⟨g, i, none⟩ = some (.slice (some ⟨b, 0, none⟩) m d) ∧ (∀ j, j < m → w.cell? ⟨b, j, none⟩ = some (.int .i64 (f i j))) ∧ (∀ j, w.frozen? ⟨b, j, none⟩ = false) ∧ lo ≤ b ∧ b ≠ g ∧ b < w.heap.size := by
  obtain ⟨b, d, r, hb, hr, e, ho, h1, h2⟩ := h.at (i := i) (by rw [mkL_len]; exact hi)
  rw [mkL_row hi] at hr; cases hr
  simp only [List.length_map, List.length_range] at e
  exact ⟨b, d, hb, e, fun j hj => ho.cells (by rw [List.getElem?_map, List.getElem?_range hj]; rfl), fun j => ho.frozen j, h1, h2, ho.lt⟩
theorem lap_step {rs : List Rn} {k : Nat} {r : Rn} (hr : rs[k]? = some r) (i j : Nat) : lap0 (rs.take (k + 1)) i j = lap0 (rs.take k) i j + r.g * (inc r (i + 1) * inc r (j + 1)) := lsm_take hr _
theorem rep_snoc {α : Type} (x : α) (j : Nat) : List.replicate j x ++ [x] = List.replicate (j + 1) x := by rw [List.replicate_succ']
theorem rep_mkL (m : Nat) : List.replicate m (List.replicate m (0 : Int)) = mkL m (lap0 ([] : List Rn)) := by
  unfold mkL
  refine List.ext_getElem? (fun i => ?_)
  by_cases h : i < m
  · rw [List.getElem?_replicate, if_pos h, List.getElem?_map, List.getElem?_range h]
    show some _ = some _
    congr 1
    refine List.ext_getElem? (fun j => ?_)
    by_cases h2 : j < m
    · rw [List.getElem?_replicate, if_pos h2, List.getElem?_map, List.getElem?_range h2]; rfl
    · rw [List.getElem?_replicate, if_neg h2, List.getElem?_eq_none (by simp; omega)]
  · rw [List.getElem?_replicate, if_neg h, List.getElem?_eq_none (by simp; omega)]
theorem lap_put1 {f0 : Mx} {T : Nat} {G : Int} (x y : Nat) : putF f0 T T (f0 T T + G) x y = f0 x y + G * ((if x = T then 1 else 0) * (if y = T then 1 else 0)) := by
  unfold putF
  by_cases a : x = T <;> by_cases b : y = T <;> simp [a, b]
theorem lap_put2 {f0 : Mx} {F T : Nat} {G : Int} (hFT : F ≠ T) (x y : Nat) : putF (putF (putF (putF f0 F F (f0 F F + G)) T T (f0 T T + G)) F T (f0 F T - G)) T F (f0 T F - G) x y = f0 x y + G * (((if x = T then 1 else 0) - (if x = F then 1 else 0)) * ((if y = T then 1 else 0) - (if y = F then 1 else 0))) := by
  unfold putF
  have hTF := Ne.symm hFT
  by_cases a : x = T
  · subst a
    by_cases c : y = x
    · subst c; simp [hTF, hFT]
    · by_cases d : y = F
      · subst d; simp [hTF, hFT]; omega
      · simp [c, d, hTF, hFT]
  · by_cases b : x = F
    · subst b
      by_cases c : y = T
      · subst c; simp [hTF, hFT]; omega
      · by_cases d : y = x
        · subst d; simp [hTF, hFT]
        · simp [c, d, hTF, hFT]
    · simp [a, b]
theorem lap_det_low {n : Nat} {rs : List Rn} (hn5 : n ≤ 5) (hf : ∀ r ∈ rs, r.f ≠ r.t ∧ 1 ≤ r.g ∧ r.g ≤ 9) (hl : rs.length ≤ 12) : -2000000000000 ≤ det n (lap0 rs) ∧ det n (lap0 rs) ≤ 2000000000000 := by
  have h1 := det_abs (e := 108) (by omega) n (lap0 rs) (fun i j _ _ => lap_low hf hl (i + 1) (j + 1))
  match n, hn5 with
  | 0, _ => simp [fct, pw] at h1; omega
  | 1, _ => simp [fct, pw] at h1; omega
  | 2, _ => simp [fct, pw] at h1; omega
  | 3, _ => simp [fct, pw] at h1; omega
  | 4, _ => simp [fct, pw] at h1; omega
  | 5, _ => simp [fct, pw] at h1; omega
end Go.Proofs.Ytddmbjobibljaaa
