/-
  The reference model's NetSource.
  The reference model's NetMatrix and NetTrees.
-/
import Derived.Test.YtoaomjchaihkaaaGreatDoorZb
import Derived.Test.YtoaomjchaihkaaaGreatDoorZf
import Derived.Deep.Cut
import Derived.Test.YtoaomjchaihkaaaGreatDoorZc
namespace Go.Proofs.YtoaomjchaihkaaaGreatDoor
open Go.RowKit
set_option linter.unusedVariables false

/-- a number for each node -/
def rgL (n : Nat) (f : Nat → Int) : List Int := (List.range n).map f
theorem rgL_len (n : Nat) (f : Nat → Int) : (rgL n f).length = n := by simp [rgL]
theorem rgL_at {n i : Nat} (f : Nat → Int) (h : i < n) : (rgL n f)[i]? = some (f i) := by unfold rgL; rw [List.getElem?_map, List.getElem?_range h]; rfl
theorem rgL_set {n i : Nat} (f : Nat → Int) (y : Int) : (rgL n f).set i y = rgL n (fun j => if j = i then y else f j) := by
  refine List.ext_getElem? (fun j => ?_)
  rw [List.getElem?_set, rgL_len]
  by_cases e : i = j
  · subst e
    rw [if_pos rfl]
    by_cases h : i < n
    · rw [if_pos h, rgL_at _ h, if_pos rfl]
    · rw [if_neg h, List.getElem?_eq_none (by rw [rgL_len]; omega)]
  · rw [if_neg e]
    by_cases h : j < n
    · rw [rgL_at _ h, rgL_at _ h, if_neg (Ne.symm e)]
    · rw [List.getElem?_eq_none (by rw [rgL_len]; omega), List.getElem?_eq_none (by rw [rgL_len]; omega)]
theorem rgL_congr {n : Nat} {f g : Nat → Int} (h : ∀ i, i < n → f i = g i) : rgL n f = rgL n g := List.ext_getElem? (fun j => by
  by_cases hj : j < n
  · rw [rgL_at _ hj, rgL_at _ hj, h j hj]
  · rw [List.getElem?_eq_none (by rw [rgL_len]; omega), List.getElem?_eq_none (by rw [rgL_len]; omega)])
theorem ok_runs {n : Int} {rs : List Rn} (hn : nOk n rs = true) : ∀ r ∈ rs, r.f ≠ r.t ∧ 1 ≤ r.g ∧ r.g ≤ 9 ∧ -100000 ≤ r.s ∧ r.s ≤ 100000 := fun r hr => by
  obtain ⟨j, hj⟩ := List.getElem?_of_mem hr
  have := rOk_true ((nOk_true hn).2.2.2 j r hj)
  exact ⟨this.2.2.2.2.1, this.2.2.2.2.2.2.2.1, this.2.2.2.2.2.2.2.2, this.2.2.2.2.2.1, this.2.2.2.2.2.2.1⟩
theorem srcs_step {rs : List Rn} {k : Nat} {r : Rn} (hr : rs[k]? = some r) (i : Nat) : srcs (rs.take (k + 1)) i = srcs (rs.take k) i + r.g * r.s * inc r i := lsm_take hr _
set_option maxHeartbeats 4000000 in
set_option maxRecDepth 100000 in
theorem sSource_yes (n : Nat) (p : Option Addr) (c m : Nat) (rs : List Rn) (w : World) (h : Runs w p rs) (hn : nOk ((n : Nat) : Int) rs = true) (hm : rs.length = m) :
    Calls Tryz.prog 79 #[.int .i64 n, .slice p m c] w fun e w' => ∃ g, e = .returned (.tuple #[.slice (some ⟨g, 1, none⟩) (n - 1) (n - 1), .bool true]) ∧ w.heap.size ≤ g ∧ Own w' g 3 1 n n (rgL n (srcs rs)) ∧ Below w.heap.size w w' := by
  have hN := nOk_true hn
  have hl12 : m ≤ 12 := by rw [← hm]; exact hN.2.2.1
  have hn2 : 2 ≤ n := by have := hN.1; omega
  have hn6 : n ≤ 6 := by have := hN.2.1; omega
  have c1 := fun w h => Lib.hid (sValid n p c rs true w h (by omega) hn)
  rw [hm] at c1
  have hmk := fun w => made_ints w n (by omega)
  have H := Lib.hid (And.intro h (And.intro hn hm))
  have H0 := fun (w : World) => Lib.hid (show Own (w.alloc (.cells (madeCells (Array.replicate 1 (.int .i64 0)) (n * 1)) 3)) w.heap.size 3 1 n n (rgL n (srcs (rs.take 0))) from by
    have ho := Own.made w 3 n 1 (by decide) (by unfold maxLen; omega)
    have e : rgL n (srcs (rs.take 0)) = List.replicate (n * 1) 0 := by
      refine List.ext_getElem? (fun j => ?_)
      rw [Nat.mul_one]
      by_cases hj : j < n
      · rw [rgL_at _ hj, List.getElem?_replicate, if_pos hj]; rfl
      · rw [List.getElem?_eq_none (by rw [rgL_len]; omega), List.getElem?_replicate, if_neg hj]
    rw [e]; exact ho)
  clear h hn hm hN
  go_enter Tryz.func79, Tryz.ntmps79
  go_wp2_with ((go_at_call 67; (with_reducible refine ((c1 _ ?_).out).mono ?_); (focus ((exact H.out.1); done)); rintro e wv ⟨rfl, hb_wv⟩; have hs_wv := hb_wv.size; (try simp at hs_wv)))
  clear hmk c1
  go_loopw [7] (fun i wr => ∃ k : Nat, k ≤ m ∧ i = .int .i64 k ∧ Own wr wv.heap.size 3 1 n n (rgL n (srcs (rs.take k))) ∧ Below w.heap.size w wr) (fun i _ => m - (intOf i).toNat)
  case atStart => exact ⟨0, Nat.zero_le _, rfl, by simpa using (H0 wv).out, hb_wv.alloc hs_wv _⟩
  case round =>
    clear H0
    rename World => wr
    obtain ⟨k, hk, rfl, ho, hb⟩ := hrel
    have hlo := ho.lt
    have hbs := hb.size
    by_cases hlt : k < m
    · have hlt' : (k : Int) < (m : Int) := by omega
      obtain ⟨B, o, r, rfl, hr, hB, e1, e2, e3, e4⟩ := (H.out.1.below hb).at (i := k) (by rw [H.out.2.2]; exact hlt)
      have hro := rOk_true ((nOk_true H.out.2.1).2.2.2 k r hr)
      obtain ⟨F, hF⟩ : ∃ F : Nat, r.f = F := ⟨r.f.toNat, by omega⟩
      obtain ⟨T, hT⟩ : ∃ T : Nat, r.t = T := ⟨r.t.toNat, by omega⟩
      have HX := Lib.hid (And.intro ho (And.intro hb (And.intro hr (And.intro hF hT))))
      rw [hF] at e1
      rw [hT] at e2
      have hFT : ¬ F = T := by intro e; subst e; exact hro.2.2.2.2.1 (by omega)
      have hFn : F < n := by omega
      have hTn : T < n := by omega
      have hFn' : (F : Int) < (n : Int) := by omega
      have hTn' : (T : Int) < (n : Int) := by omega
      have cT := ho.cells (rgL_at (srcs (rs.take k)) hTn)
      have cF := ho.cells (rgL_at (srcs (rs.take k)) hFn)
      have fT := ho.frozen T
      have fF := ho.frozen F
      clear ho hb hr hF hT
      have bT := srcs_low (rs := rs.take k) (fun x hx => ok_runs H.out.2.1 x (List.mem_of_mem_take hx)) (by rw [List.length_take, H.out.2.2]; omega) T
      have bF := srcs_low (rs := rs.take k) (fun x hx => ok_runs H.out.2.1 x (List.mem_of_mem_take hx)) (by rw [List.length_take, H.out.2.2]; omega) F
      obtain ⟨yT, hyT⟩ : ∃ y, srcs (rs.take k) T = y := ⟨_, rfl⟩
      obtain ⟨yF, hyF⟩ : ∃ y, srcs (rs.take k) F = y := ⟨_, rfl⟩
      rw [hyT] at cT bT
      rw [hyF] at cF bF
      have bP := abs_mul (a := r.g) (b := r.s) (x := 9) (y := 100000) (by omega) (by omega)
      obtain ⟨P, hP⟩ : ∃ P, r.g * r.s = P := ⟨_, rfl⟩
      rw [hP] at bP
      obtain ⟨P1, P2⟩ := bP
      obtain ⟨T1, T2⟩ := bT
      obtain ⟨F1, F2⟩ := bF
      have q1 : IntKind.i64.wrap (r.g * r.s) = P := by rw [hP, IntKind.wrap_i64]; omega
      have q2 : IntKind.i64.wrap (yT + P) = yT + P := by rw [IntKind.wrap_i64]; omega
      have q3 : IntKind.i64.wrap (yF - P) = yF - P := by rw [IntKind.wrap_i64]; omega
      have HP := Lib.hid (And.intro hP (And.intro hyT hyF))
      clear hP hyT hyF
      go_upto_region 8 with fail
      go_region
      go_upto_region 9 with fail
      go_region
      go_wp2_with fail
      have h1 := (HX.out.1.set T (yT + P) (by rw [rgL_len]; exact hTn)).set F (yF - P) (by rw [List.length_set, rgL_len]; exact hFn)
      have hL : ((rgL n (srcs (rs.take k))).set T (yT + P)).set F (yF - P) = rgL n (srcs (rs.take (k + 1))) := by
        rw [rgL_set, rgL_set]
        refine rgL_congr (fun j hj => ?_)
        rw [srcs_step HX.out.2.2.1, HP.out.1]
        unfold inc
        rw [HX.out.2.2.2.1, HX.out.2.2.2.2]
        by_cases a : j = F
        · subst a
          rw [if_pos rfl, if_neg (by omega), if_pos rfl, HP.out.2.2]; omega
        · rw [if_neg a]
          by_cases b : j = T
          · subst b
            rw [if_pos rfl, if_pos rfl, if_neg (by omega), HP.out.2.1]; omega
          · rw [if_neg b, if_neg (by omega), if_neg (by omega)]; simp
      rw [hL] at h1
      have hGv : wv.heap.size < wr.heap.size := hlo
      exact ⟨⟨k + 1, by omega, by go_num, h1.alloc _, below_drew (below_drew (((HX.out.2.1.setCell (p := ⟨wv.heap.size, T, none⟩) hs_wv _).setCell (p := ⟨wv.heap.size, F, none⟩) hs_wv _).alloc (by simp; omega) _))⟩, by simp [intOf]; omega⟩
    · have e : k = m := by omega
      subst e
      rw [List.take_of_length_le (by rw [H.out.2.2]; exact Nat.le_refl _)] at ho
      have HX := Lib.hid (And.intro ho hb)
      clear ho hb
      go_wp2_with fail
      refine bodyPost_ret (v := .tuple #[.slice (some ⟨wv.heap.size, 1, none⟩) (n - 1) (n - 1), .bool true]) (by simp [results, Tryz.results79, go_sem]) rfl ⟨wv.heap.size, rfl, hs_wv, HX.out.1, HX.out.2⟩
end Go.Proofs.YtoaomjchaihkaaaGreatDoor
namespace Go.Proofs.YtoaomjchaihkaaaGreatDoor
open Go.RowKit
set_option linter.unusedVariables false

/-- a number of a matrix written -/
def putF (f : Mx) (i j : Nat) (v : Int) : Mx := fun x y => if x = i ∧ y = j then v else f x y
theorem mkL_put {m i j : Nat} (f : Mx) (v : Int) (hi : i < m) : (mkL m f).set i (((List.range m).map (fun y => f i y)).set j v) = mkL m (putF f i j v) := by
  refine List.ext_getElem? (fun x => ?_)
  rw [List.getElem?_set, mkL_len]
  by_cases e : i = x
  · subst e
    rw [if_pos rfl, if_pos hi, mkL_row hi]
    congr 1
    refine List.ext_getElem? (fun y => ?_)
    rw [List.getElem?_set, List.length_map, List.length_range]
    by_cases e2 : j = y
    · subst e2
      rw [if_pos rfl]
      by_cases hj : j < m
      · rw [if_pos hj, List.getElem?_map, List.getElem?_range hj]; simp [putF]
      · rw [if_neg hj, List.getElem?_eq_none (by simp; omega)]
    · rw [if_neg e2]
      by_cases hy : y < m
      · rw [List.getElem?_map, List.getElem?_map, List.getElem?_range hy]
        simp [putF, Ne.symm e2]
      · rw [List.getElem?_eq_none (by simp; omega), List.getElem?_eq_none (by simp; omega)]
  · rw [if_neg e]
    by_cases hx : x < m
    · rw [mkL_row hx, mkL_row hx]
      congr 1
      refine List.map_congr_left (fun y _ => ?_)
      unfold putF; rw [if_neg (by intro h; exact e h.1.symm)]
    · rw [List.getElem?_eq_none (by rw [mkL_len]; omega), List.getElem?_eq_none (by rw [mkL_len]; omega)]
theorem gb_one2 (w : World) (B i : Nat) (v : Value) : w.grownBy (w.setCell ⟨B, i, none⟩ v) (some B) := ⟨rfl, rfl, rfl, by simp, fun k hk hne => Deep.blk_setCell_other _ _ _ _ (by simpa using hne)⟩
/-- a number of a block of rows written -/
theorem GridO.putF {w : World} {lo g cap m i j b d : Nat} {bs : List (Nat × Nat)} {f : Mx} (h : GridO w 3 30 lo g cap bs (mkL m f)) (hb : bs[i]? = some (b, d)) (hi : i < m) (hj : j < m) (v : Int) : GridO (w.setCell ⟨b, j, none⟩ (.int .i64 v)) 3 30 lo g cap bs (mkL m (putF f i j v)) := by
  have hr := mkL_row (f := f) hi
  have := h.setRow hb hr (r' := ((List.range m).map (fun y => f i y)).set j v) (by rw [List.length_set]) (by rw [List.length_set]; exact (h.row i b d _ hb hr).set j v (by simp; exact hj)) (gb_one2 w b j (.int .i64 v))
  rw [mkL_put f v hi] at this
  exact this
/-- the cells of a row -/
theorem GridO.rowC {w : World} {lo g cap m i : Nat} {bs : List (Nat × Nat)} {f : Mx} (h : GridO w 3 30 lo g cap bs (mkL m f)) (hi : i < m) :
    ∃ b d, bs[i]? = some (b, d) ∧ w.cell? ⟨g, i, none⟩ = some (.slice (some ⟨b, 0, none⟩) m d) ∧ (∀ j, j < m → w.cell? ⟨b, j, none⟩ = some (.int .i64 (f i j))) ∧ (∀ j, w.frozen? ⟨b, j, none⟩ = false) ∧ lo ≤ b ∧ b ≠ g ∧ b < w.heap.size := by
  obtain ⟨b, d, r, hb, hr, e, ho, h1, h2⟩ := h.at (i := i) (by rw [mkL_len]; exact hi)
  rw [mkL_row hi] at hr; cases hr
  simp only [List.length_map, List.length_range] at e
  exact ⟨b, d, hb, e, fun j hj => ho.cells (by rw [List.getElem?_map, List.getElem?_range hj]; rfl), fun j => ho.frozen j, h1, h2, ho.lt⟩
theorem lap_step {rs : List Rn} {k : Nat} {r : Rn} (hr : rs[k]? = some r) (i j : Nat) : lap0 (rs.take (k + 1)) i j = lap0 (rs.take k) i j + r.g * (inc r (i + 1) * inc r (j + 1)) := lsm_take hr _
theorem rep_snoc {α : Type} (x : α) (j : Nat) : List.replicate j x ++ [x] = List.replicate (j + 1) x := by rw [List.replicate_succ']
theorem rep_mkL (m : Nat) : List.replicate m (List.replicate m (0 : Int)) = mkL m (lap0 ([] : List Rn)) := by
  unfold mkL
  refine List.ext_getElem? (fun i => ?_)
  by_cases h : i < m
  · rw [List.getElem?_replicate, if_pos h, List.getElem?_map, List.getElem?_range h]
    show some _ = some _
    congr 1
    refine List.ext_getElem? (fun j => ?_)
    by_cases h2 : j < m
    · rw [List.getElem?_replicate, if_pos h2, List.getElem?_map, List.getElem?_range h2]; rfl
    · rw [List.getElem?_replicate, if_neg h2, List.getElem?_eq_none (by simp; omega)]
  · rw [List.getElem?_replicate, if_neg h, List.getElem?_eq_none (by simp; omega)]
theorem lap_put1 {f0 : Mx} {T : Nat} {G : Int} (x y : Nat) : putF f0 T T (f0 T T + G) x y = f0 x y + G * ((if x = T then 1 else 0) * (if y = T then 1 else 0)) := by
  unfold putF
  by_cases a : x = T <;> by_cases b : y = T <;> simp [a, b]
theorem lap_put2 {f0 : Mx} {F T : Nat} {G : Int} (hFT : F ≠ T) (x y : Nat) : putF (putF (putF (putF f0 F F (f0 F F + G)) T T (f0 T T + G)) F T (f0 F T - G)) T F (f0 T F - G) x y = f0 x y + G * (((if x = T then 1 else 0) - (if x = F then 1 else 0)) * ((if y = T then 1 else 0) - (if y = F then 1 else 0))) := by
  unfold putF
  have hTF := Ne.symm hFT
  by_cases a : x = T
  · subst a
    by_cases c : y = x
    · subst c; simp [hTF]
    · by_cases d : y = F
      · subst d; simp [hTF, hFT]; omega
      · simp [c, d, hTF]
  · by_cases b : x = F
    · subst b
      by_cases c : y = T
      · subst c; simp [hTF, hFT]; omega
      · by_cases d : y = x
        · subst d; simp [hFT]
        · simp [c, d, hFT]
    · simp [a, b]
set_option maxHeartbeats 8000000 in
set_option maxRecDepth 100000 in
theorem sMatrix_yes (N n : Nat) (p : Option Addr) (c m : Nat) (rs : List Rn) (w : World) (h : Runs w p rs) (hn : nOk (N : Int) rs = true) (hm : rs.length = m) (hNn : N = n + 1) :
    Calls Tryz.prog 78 #[.int .i64 N, .slice p m c] w fun e w' => ∃ g cap bs, e = .returned (.tuple #[.slice (some ⟨g, 0, none⟩) n cap, .bool true]) ∧ GridO w' 3 30 w.heap.size g cap bs (mkL n (lap0 rs)) ∧ Below w.heap.size w w' := by
  have hN := nOk_true hn
  have hl12 : m ≤ 12 := by rw [← hm]; exact hN.2.2.1
  have hn1 : 1 ≤ n := by have := hN.1; omega
  have hn5 : n ≤ 5 := by have := hN.2.1; omega
  have c1 := fun w h => Lib.hid (sValid N p c rs true w h (by omega) hn)
  rw [hm] at c1
  have hNi : (N : Int) - 1 = (n : Int) := by omega
  have hN6 : N ≤ 6 := by omega
  have hN2 : 2 ≤ N := by omega
  have hmk := fun w => made_ints w n (by omega)
  have HN := Lib.hid hNn
  have H := Lib.hid (And.intro h (And.intro hn hm))
  have HE := fun w => Lib.hid (GridO.empty w 3 30 w.heap.size (Nat.le_refl _))
  have HO := fun (w : World) => Lib.hid (show Own (w.alloc (.cells (madeCells (Array.replicate 1 (.int .i64 0)) (n * 1)) 3)) w.heap.size 3 1 n n (List.replicate n 0) from by
    have ho := Own.made w 3 n 1 (by decide) (by unfold maxLen; omega)
    rw [Nat.mul_one] at ho ⊢; exact ho)
  clear h hn hm hN hNn
  go_enter Tryz.func78, Tryz.ntmps78
  go_wp2_with ((go_at_call 67; (with_reducible refine ((c1 _ ?_).out).mono ?_); (focus ((exact H.out.1.below (by repeat (first | assumption | exact Below.refl _ _ | (refine below_chain ?_ (by assumption) (by first | omega | (simp <;> omega) | simp)) | (refine Below.alloc ?_ (by first | omega | (simp <;> omega) | simp) _) | (apply below_drewN) | (apply below_drew) | (refine Below.setCell ?_ (by first | omega | (simp <;> omega) | simp) _)))); done)); rintro e wv ⟨rfl, hb_wv⟩; have hs_wv := hb_wv.size; (try simp at hs_wv)))
  have HE0 := Lib.hid ((HE w).out.below hb_wv)
  have hb0 : Below w.heap.size w wv := (by repeat (first | assumption | exact Below.refl _ _ | (refine below_chain ?_ (by assumption) (by first | omega | (simp <;> omega) | simp)) | (refine Below.alloc ?_ (by first | omega | (simp <;> omega) | simp) _) | (apply below_drewN) | (apply below_drew) | (refine Below.setCell ?_ (by first | omega | (simp <;> omega) | simp) _)))
  have hwv := hb0.size
  clear HE c1
  go_loopw [6, 7] (fun v i wr => ∃ (j g cap : Nat) (bs : List (Nat × Nat)), j ≤ n ∧ i = .int .i64 ((j : Int) + 1) ∧ v = .slice (some ⟨g, 0, none⟩) j cap ∧ GridO wr 3 30 w.heap.size g cap bs (List.replicate j (List.replicate n 0)) ∧ Below w.heap.size w wr) (fun _ i _ => N - (intOf i).toNat)
  case atStart => exact ⟨0, _, _, _, Nat.zero_le _, rfl, rfl, HE0.out, hb0⟩
  case round =>
    clear HE0
    rename World => wr
    obtain ⟨j, g, cap, bs, hj, rfl, rfl, hg, hbr⟩ := hrel
    have hbs := hbr.size
    have hlg := hg.lt
    by_cases hlt : j < n
    · have hlt' : (j : Int) + 1 < (N : Int) := by have := HN.out; omega
      have hzb := hg.z
      have HG := Lib.hid (And.intro hg (And.intro hbr hzb))
      have hxl : (List.replicate j (List.replicate n (0 : Int))).length = j := by simp
      have hT : Hid (GridO (wr.alloc (.cells (madeCells (Array.replicate 1 (.int .i64 0)) (n * 1)) 3)) 3 30 w.heap.size g cap bs (List.replicate j (List.replicate n 0))) := Lib.hid (hg.alloc _)
      have hO := Lib.hid (HO wr).out
      clear hg hbr hzb
      go_wp2_with (at_builtin; refine wp_appendV _ rfl _ _ 63 rfl 30 _ 24 Tryz.underlying63 info_ints rfl (by decide) g j cap (rowVs bs (List.replicate j (List.replicate n 0))) rfl (by have := (hT.out.alloc (.cells #[.slice (some ⟨wr.heap.size, 0, none⟩) n n] 30)).top; rw [hxl] at this; simpa using this) _ 1 1 [.slice (some ⟨wr.heap.size, 0, none⟩) n n] rfl rfl (by have := cell_one_new (wr.alloc (.cells (madeCells #[.int .i64 0] n) 3)) (.slice (some ⟨wr.heap.size, 0, none⟩) n n) 30; simpa using this) (by intro u hu; simp at hu; subst hu; rfl) (by omega) ?_; intro g3 d3 w3 hown3 hg3 hloc3 hsz3; have HN3 := Lib.hid (And.intro hown3 (And.intro hg3 hloc3)); clear hown3 hg3 hloc3)
      obtain ⟨hown3, hg3, hloc3⟩ := HN3.out
      have hloc4 : g3 = g ∨ wr.heap.size + 1 < g3 := by
        rcases hloc3 with e | e
        · exact .inl e
        · right; simp at e; omega
      have hgg := (hT.out.alloc (.cells #[.slice (some ⟨wr.heap.size, 0, none⟩) n n] 30)).push hxl (row := List.replicate n 0) (by simp) (by simpa using hg3) (by simpa using hloc3) (by simpa using hown3) (hO.out.alloc _) ⟨by omega, by omega⟩ (fun i b' c' hb' e => by have := HG.out.2.2 i b' c' hb'; omega)
      rw [rep_snoc] at hgg
      exact ⟨⟨j + 1, g3, d3, _, by omega, by go_num, rfl, hgg, below_gr ((HG.out.2.1.alloc hbs _).alloc (by simp; omega) _) hg3 HG.out.1.low (by simp; omega)⟩, by simp [intOf]; omega⟩
    · have e : n = j := by omega
      subst e
      have HG0 : Hid (GridO wr 3 30 w.heap.size g cap bs (mkL n (lap0 (rs.take 0)))) := Lib.hid (by rw [show rs.take 0 = ([] : List Rn) from rfl, ← rep_mkL]; exact hg)
      have hlow := hg.low
      have HB := Lib.hid hbr
      have hNj : ¬ (n : Int) + 1 < (N : Int) := by have := HN.out; omega
      clear hg hbr hmk HO
      go_wp2_with fail
      go_loopw [8] (fun i wq => ∃ k : Nat, k ≤ m ∧ i = .int .i64 k ∧ GridO wq 3 30 w.heap.size g cap bs (mkL n (lap0 (rs.take k))) ∧ Below w.heap.size w wq) (fun i _ => m - (intOf i).toNat)
      case atStart => exact ⟨0, Nat.zero_le _, rfl, HG0.out, HB.out⟩
      case round =>
        clear HG0 HB
        rename World => wq
        obtain ⟨k, hk, rfl, hg, hb⟩ := hrel
        have hlq := hg.lt
        have hbq := hb.size
        by_cases hlt : k < m
        · have hlt' : (k : Int) < (m : Int) := by omega
          obtain ⟨B, o, r, rfl, hr, hB, e1, e2, e3, e4⟩ := (H.out.1.below hb).at (i := k) (by rw [H.out.2.2]; exact hlt)
          have hro := rOk_true ((nOk_true H.out.2.1).2.2.2 k r hr)
          have hlow := fun i j => lap_low (rs := rs.take k) (fun x hx => ⟨(ok_runs H.out.2.1 x (List.mem_of_mem_take hx)).1, (ok_runs H.out.2.1 x (List.mem_of_mem_take hx)).2.1, (ok_runs H.out.2.1 x (List.mem_of_mem_take hx)).2.2.1⟩) (by rw [List.length_take, H.out.2.2]; omega) (i + 1) (j + 1)
          have hlow0 : ∀ i j, -108 ≤ lap0 (rs.take k) i j ∧ lap0 (rs.take k) i j ≤ 108 := hlow
          obtain ⟨f0, hf0⟩ : ∃ f, lap0 (rs.take k) = f := ⟨_, rfl⟩
          rw [hf0] at hg hlow0
          obtain ⟨G, hG⟩ : ∃ G, r.g = G := ⟨_, rfl⟩
          have hGb : 1 ≤ G ∧ G ≤ 9 := by rw [← hG]; exact ⟨hro.2.2.2.2.2.2.2.1, hro.2.2.2.2.2.2.2.2⟩
          obtain ⟨G1, G2⟩ := hGb
          rw [hG] at e4
          have hst : ∀ x y, lap0 (rs.take (k + 1)) x y = f0 x y + G * (inc r (x + 1) * inc r (y + 1)) := fun x y => by rw [lap_step hr, hf0, hG]
          have hnn := HN.out
          clear hlow hf0 hr e3
          by_cases hF0 : r.f = 0
          · obtain ⟨T, hT⟩ : ∃ T : Nat, r.t = (T : Int) + 1 := ⟨(r.t - 1).toNat, by omega⟩
            have hTn : T < n := by omega
            obtain ⟨bT, dT, hbT, eT, cT, fT, lT, nT, zT⟩ := hg.rowC hTn
            have cTT := cT T hTn
            have fTT := fT T
            obtain ⟨a, ha⟩ : ∃ a, f0 T T = a := ⟨_, rfl⟩
            have hab := hlow0 T T
            rw [ha] at cTT hab
            obtain ⟨a1, a2⟩ := hab
            have h1 := hg.putF hbT hTn hTn (a + G)
            have q1 : IntKind.i64.wrap (a + G) = a + G := by rw [IntKind.wrap_i64]; omega
            have hinc : ∀ z : Nat, inc r (z + 1) = if z = T then 1 else 0 := fun z => by
              unfold inc; rw [hF0, hT]
              by_cases c : z = T
              · rw [if_pos (by omega), if_pos c, if_neg (by omega)]; rfl
              · rw [if_neg (by omega), if_neg c, if_neg (by omega)]; rfl
            have hL : mkL n (Go.Proofs.YtoaomjchaihkaaaGreatDoor.putF f0 T T (a + G)) = mkL n (lap0 (rs.take (k + 1))) := mkL_congr (fun x y _ _ => by rw [hst, hinc, hinc, ← ha]; exact lap_put1 x y)
            rw [hL] at h1
            have HX := Lib.hid (And.intro h1 (hb.setCell (p := ⟨bT, T, none⟩) lT (.int .i64 (a + G))))
            have hTn' : (T : Int) < (n : Int) := by omega
            rw [hF0] at e1
            rw [hT] at e2
            clear hg hb h1 hL hst hinc cT fT hbT hlow0 ha
            go_upto_region 17 with fail
            go_region
            go_wp2_with fail
            exact ⟨⟨k + 1, by omega, by go_num, HX.out.1.block (fun _ _ _ => rfl), below_drew HX.out.2⟩, by simp [intOf]; omega⟩
          · obtain ⟨F, hF⟩ : ∃ F : Nat, r.f = (F : Int) + 1 := ⟨(r.f - 1).toNat, by omega⟩
            have hFn : F < n := by omega
            have hFn' : (F : Int) < (n : Int) := by omega
            obtain ⟨bF, dF, hbF, eF, cF, fF, lF, nF, zF⟩ := hg.rowC hFn
            have cFF := cF F hFn
            have fFF := fF F
            obtain ⟨a, ha⟩ : ∃ a, f0 F F = a := ⟨_, rfl⟩
            have hab := hlow0 F F
            rw [ha] at cFF hab
            obtain ⟨a1, a2⟩ := hab
            have q1 : IntKind.i64.wrap (a + G) = a + G := by rw [IntKind.wrap_i64]; omega
            have h1 := hg.putF hbF hFn hFn (a + G)
            rw [hF] at e1
            by_cases hT0 : r.t = 0
            · have hinc : ∀ z : Nat, inc r (z + 1) = -(if z = F then 1 else 0) := fun z => by
                unfold inc; rw [hF, hT0]
                by_cases c : z = F
                · rw [if_neg (by omega), if_pos (by omega), if_pos c]; rfl
                · rw [if_neg (by omega), if_neg (by omega), if_neg c]; rfl
              have hL : mkL n (Go.Proofs.YtoaomjchaihkaaaGreatDoor.putF f0 F F (a + G)) = mkL n (lap0 (rs.take (k + 1))) := mkL_congr (fun x y _ _ => by rw [hst, hinc, hinc, ← ha, Int.neg_mul_neg]; exact lap_put1 x y)
              rw [hL] at h1
              have HX := Lib.hid (And.intro h1 (hb.setCell (p := ⟨bF, F, none⟩) lF (.int .i64 (a + G))))
              rw [hT0] at e2
              clear hg hb h1 hL hst hinc cF fF hbF hlow0 ha
              go_upto_region 15 with fail
              go_region
              go_wp2_with fail
              exact ⟨⟨k + 1, by omega, by go_num, HX.out.1.block (fun _ _ _ => rfl), below_drew HX.out.2⟩, by simp [intOf]; omega⟩
            · obtain ⟨T, hT⟩ : ∃ T : Nat, r.t = (T : Int) + 1 := ⟨(r.t - 1).toNat, by omega⟩
              have hTn : T < n := by omega
              have hTn' : (T : Int) < (n : Int) := by omega
              have hFT : ¬ F = T := by intro e; subst e; exact hro.2.2.2.2.1 (by omega)
              have hTF : ¬ T = F := fun e => hFT e.symm
              obtain ⟨bT, dT, hbT, eT, cT, fT, lT, nT, zT⟩ := hg.rowC hTn
              have hbb : ¬ bF = bT := hg.dis F T bF dF bT dT hbF hbT hFT
              have hbb' : ¬ bT = bF := fun e => hbb e.symm
              have hgF : ¬ g = bF := fun e => nF e.symm
              have hgT : ¬ g = bT := fun e => nT e.symm
              have cTT := cT T hTn
              have cFT := cF T hTn
              have cTF := cT F hFn
              have fTT := fT T
              have fFT := fF T
              have fTF := fT F
              obtain ⟨b, hb'⟩ : ∃ b, f0 T T = b := ⟨_, rfl⟩
              obtain ⟨u, hu⟩ : ∃ u, f0 F T = u := ⟨_, rfl⟩
              obtain ⟨v, hv⟩ : ∃ v, f0 T F = v := ⟨_, rfl⟩
              have bb := hlow0 T T
              have bu := hlow0 F T
              have bv := hlow0 T F
              rw [hb'] at cTT bb
              rw [hu] at cFT bu
              rw [hv] at cTF bv
              obtain ⟨b1, b2⟩ := bb
              obtain ⟨u1, u2⟩ := bu
              obtain ⟨v1, v2⟩ := bv
              have q2 : IntKind.i64.wrap (b + G) = b + G := by rw [IntKind.wrap_i64]; omega
              have q3 : IntKind.i64.wrap (u - G) = u - G := by rw [IntKind.wrap_i64]; omega
              have q4 : IntKind.i64.wrap (v - G) = v - G := by rw [IntKind.wrap_i64]; omega
              have h4 := ((h1.putF hbT hTn hTn (b + G)).putF hbF hFn hTn (u - G)).putF hbT hTn hFn (v - G)
              have hinc : ∀ z : Nat, inc r (z + 1) = (if z = T then 1 else 0) - (if z = F then 1 else 0) := fun z => by
                unfold inc; rw [hF, hT]
                by_cases c : z = F
                · rw [if_neg (by omega), if_pos (by omega), if_neg (by omega), if_pos c]
                · rw [if_neg (show ¬ (F : Int) + 1 = ((z + 1 : Nat) : Int) by omega), if_neg c]
                  by_cases d : z = T
                  · rw [if_pos (by omega), if_pos d]
                  · rw [if_neg (by omega), if_neg d]
              have hL : mkL n (Go.Proofs.YtoaomjchaihkaaaGreatDoor.putF (Go.Proofs.YtoaomjchaihkaaaGreatDoor.putF (Go.Proofs.YtoaomjchaihkaaaGreatDoor.putF (Go.Proofs.YtoaomjchaihkaaaGreatDoor.putF f0 F F (a + G)) T T (b + G)) F T (u - G)) T F (v - G)) = mkL n (lap0 (rs.take (k + 1))) := mkL_congr (fun x y _ _ => by rw [hst, hinc, hinc, ← ha, ← hb', ← hu, ← hv]; exact lap_put2 hFT x y)
              rw [hL] at h4
              have HX := Lib.hid (And.intro h4 ((((hb.setCell (p := ⟨bF, F, none⟩) lF (.int .i64 (a + G))).setCell (p := ⟨bT, T, none⟩) lT (.int .i64 (b + G))).setCell (p := ⟨bF, T, none⟩) lF (.int .i64 (u - G))).setCell (p := ⟨bT, F, none⟩) lT (.int .i64 (v - G))))
              rw [hT] at e2
              clear hg hb h1 h4 hL hst hinc cF fF cT fT hbF hbT hlow0 ha hb' hu hv
              go_upto_region 15 with fail
              go_region
              go_upto_region 17 with fail
              go_region
              go_upto_region 19 with fail
              go_region
              go_upto_region 20 with fail
              go_region
              go_wp2_with fail
              exact ⟨⟨k + 1, by omega, by go_num, HX.out.1.block (fun _ _ _ => rfl), below_drew (below_drew (below_drew (below_drew HX.out.2)))⟩, by simp [intOf]; omega⟩
        · have e : k = m := by omega
          subst e
          rw [List.take_of_length_le (by rw [H.out.2.2]; exact Nat.le_refl _)] at hg
          have HX := Lib.hid (And.intro hg hb)
          clear hg hb
          go_wp2_with fail
          refine bodyPost_ret (v := .tuple #[.slice (some ⟨g, 0, none⟩) n cap, .bool true]) (by simp [results, Tryz.results78, go_sem]) rfl ⟨g, cap, bs, rfl, HX.out.1, HX.out.2⟩
theorem sMatrix_no (n : Int) (p : Option Addr) (c m : Nat) (rs : List Rn) (w : World) (h : Runs w p rs) (hm : rs.length = m) (hl : m ≤ 4000000000000000000) (hn : nOk n rs = false) :
    Calls Tryz.prog 78 #[.int .i64 n, .slice p m c] w fun e w' => (∃ q, e = .returned (.tuple #[.slice q 0 0, .bool false])) ∧ Below w.heap.size w w' := by
  have c1 := fun w h => Lib.hid (sValid n p c rs false w h (by omega) hn)
  rw [hm] at c1
  have H := Lib.hid h
  clear h hm hn
  go_enter Tryz.func78, Tryz.ntmps78
  go_wp2_with ((go_at_call 67; (with_reducible refine ((c1 _ ?_).out).mono ?_); (focus ((exact H.out.below (by repeat (first | assumption | exact Below.refl _ _ | (refine below_chain ?_ (by assumption) (by first | omega | (simp <;> omega) | simp)) | (refine Below.alloc ?_ (by first | omega | (simp <;> omega) | simp) _) | (apply below_drewN) | (apply below_drew) | (refine Below.setCell ?_ (by first | omega | (simp <;> omega) | simp) _)))); done)); rintro e wv ⟨rfl, hb_wv⟩; have hs_wv := hb_wv.size; (try simp at hs_wv)))
  refine bodyPost_ret (v := .tuple #[.slice (some ⟨w.heap.size, 0, none⟩) 0 0, .bool false]) (by simp [results, Tryz.results78, go_sem]) rfl ⟨⟨_, rfl⟩, (by repeat (first | assumption | exact Below.refl _ _ | (refine below_chain ?_ (by assumption) (by first | omega | (simp <;> omega) | simp)) | (refine Below.alloc ?_ (by first | omega | (simp <;> omega) | simp) _) | (apply below_drewN) | (apply below_drew) | (refine Below.setCell ?_ (by first | omega | (simp <;> omega) | simp) _)))⟩
theorem lap_det_low {n : Nat} {rs : List Rn} (hn5 : n ≤ 5) (hf : ∀ r ∈ rs, r.f ≠ r.t ∧ 1 ≤ r.g ∧ r.g ≤ 9) (hl : rs.length ≤ 12) : -2000000000000 ≤ det n (lap0 rs) ∧ det n (lap0 rs) ≤ 2000000000000 := by
  have h1 := det_abs (e := 108) (by omega) n (lap0 rs) (fun i j _ _ => lap_low hf hl (i + 1) (j + 1))
  match n, hn5 with
  | 0, _ => simp [fct, pw] at h1; omega
  | 1, _ => simp [fct, pw] at h1; omega
  | 2, _ => simp [fct, pw] at h1; omega
  | 3, _ => simp [fct, pw] at h1; omega
  | 4, _ => simp [fct, pw] at h1; omega
  | 5, _ => simp [fct, pw] at h1; omega
theorem sTrees_yes (N n : Nat) (p : Option Addr) (c m : Nat) (rs : List Rn) (w : World) (h : Runs w p rs) (hn : nOk (N : Int) rs = true) (hm : rs.length = m) (hNn : N = n + 1) :
    Calls Tryz.prog 133 #[.int .i64 N, .slice p m c] w fun e w' => e = .returned (.int .i64 (det n (lap0 rs))) ∧ Below w.heap.size w w' := by
  have hn5 : n ≤ 5 := by have := (nOk_true hn).2.1; omega
  have c1 := fun w h => Lib.hid (sMatrix_yes N n p c m rs w h hn hm hNn)
  have hsm := lap0_small n (fun r hr => ⟨(ok_runs hn r hr).1, (ok_runs hn r hr).2.1, (ok_runs hn r hr).2.2.1⟩) (nOk_true hn).2.2.1
  have c2 := fun g cap w h => Lib.hid (by have := sDet n cap (some ⟨g, 0, none⟩) (mkL n (lap0 rs)) w h mkL_sq hn5 (fun i j hi hj => by rw [ent_mkL hi hj]; exact hsm i j hi hj); rw [det_mkL] at this; exact this)
  have H := Lib.hid h
  clear h hm hn hNn hsm
  obtain ⟨D, hD⟩ : ∃ D, det n (lap0 rs) = D := ⟨_, rfl⟩
  rw [hD] at c2 ⊢
  clear hD
  go_enter Tryz.func133, Tryz.ntmps133
  go_wp2_with (first
    | ((go_at_call 78; (with_reducible refine ((c1 _ ?_).out).mono ?_); (focus ((exact H.out); done)); rintro e wm ⟨g, cap, bs, rfl, hg_wm, hb_wm⟩; have hs_wm := hb_wm.size; (try simp at hs_wm)); have HG := Lib.hid hg_wm; clear hg_wm)
    | (go_at_call 80; (with_reducible refine ((c2 _ _ _ ?_).out).mono ?_); (focus ((exact HG.out.read); done)); rintro e wd ⟨rfl, hb_wd⟩; have hs_wd := hb_wd.size; (try simp at hs_wd)))
  go_ret
  exact ⟨rfl, (by repeat (first | assumption | exact Below.refl _ _ | (refine below_chain ?_ (by assumption) (by first | omega | (simp <;> omega) | simp)) | (refine Below.alloc ?_ (by first | omega | (simp <;> omega) | simp) _) | (apply below_drewN) | (apply below_drew) | (refine Below.setCell ?_ (by first | omega | (simp <;> omega) | simp) _)))⟩
theorem sTrees_no (n : Int) (p : Option Addr) (c m : Nat) (rs : List Rn) (w : World) (h : Runs w p rs) (hm : rs.length = m) (hl : m ≤ 4000000000000000000) (hn : nOk n rs = false) :
    Calls Tryz.prog 133 #[.int .i64 n, .slice p m c] w fun e w' => e = .returned (.int .i64 (-1)) ∧ Below w.heap.size w w' := by
  have c1 := fun w h => Lib.hid (sMatrix_no n p c m rs w h hm hl hn)
  have H := Lib.hid h
  clear h hm hn
  go_enter Tryz.func133, Tryz.ntmps133
  go_wp2_with ((go_at_call 78; (with_reducible refine ((c1 _ ?_).out).mono ?_); (focus ((exact H.out); done)); rintro e wm ⟨⟨q, rfl⟩, hb_wm⟩; have hs_wm := hb_wm.size; (try simp at hs_wm)))
  go_ret
  exact ⟨rfl, (by repeat (first | assumption | exact Below.refl _ _ | (refine below_chain ?_ (by assumption) (by first | omega | (simp <;> omega) | simp)) | (refine Below.alloc ?_ (by first | omega | (simp <;> omega) | simp) _) | (apply below_drewN) | (apply below_drew) | (refine Below.setCell ?_ (by first | omega | (simp <;> omega) | simp) _)))⟩
end Go.Proofs.YtoaomjchaihkaaaGreatDoor
