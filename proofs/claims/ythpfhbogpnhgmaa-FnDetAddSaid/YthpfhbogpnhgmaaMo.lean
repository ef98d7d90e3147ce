/-
  The program's matrices made from functions of both indexes: one theorem for each such function. (Written by genmo.py.)
-/
import Derived.Test.YthpfhbogpnhgmaaMq
namespace Go.Proofs.Ythpfhbogpnhgmaa
open Go.RowKit
set_option linter.unusedVariables false

/-- a row of those that stand written -/
theorem GridT.setRow {w w' : World} {TI TR : TypeId} {lo g n i b c : Nat} {bs : List (Nat × Nat)} {L : List (List Int)} {r r' : List Int} (h : GridT w TI TR lo g n bs L) (hb : bs[i]? = some (b, c)) (hr : L[i]? = some r) (hl : r'.length = r.length) (ho : Own w' b TI 1 r'.length c r') (hg : w.grownBy w' (some b)) : GridT w' TI TR lo g n bs (L.set i r') := by
  have hne := (h.far i b c hb).2
  refine ⟨?_, by rw [List.length_set]; exact h.len, fun j b' c' x hb' hx => ?_, h.far, h.dis, h.low⟩
  · rw [List.length_set, rowVs_set hr hl]
    exact h.top.grown hg (Ne.symm hne)
  · by_cases e : j = i
    · subst e
      rw [hb] at hb'; cases hb'
      rw [List.getElem?_set, if_pos rfl, if_pos (List.getElem?_eq_some_iff.1 hr).1] at hx
      cases hx
      exact ho
    · rw [List.getElem?_set, if_neg (Ne.symm e)] at hx
      exact (h.row j b' c' x hb' hx).grown hg (h.dis j i b' c' b c hb' hb e)
theorem gb_oneO (w : World) (B i : Nat) (v : Value) : w.grownBy (w.setCell ⟨B, i, none⟩ v) (some B) := ⟨rfl, rfl, rfl, by simp, fun k hk hne => Deep.blk_setCell_other _ _ _ _ (by simpa using hne)⟩
theorem frozen_below_keep {w w' : World} {p : Addr} {v : Value} (h : Below w.heap.size w w') (hc : w.cell? p = some v) (hf : w.frozen? p = false) : w'.frozen? p = false := by
  rw [h.frozen (World.block_lt_of_cell? w _ hc)]; exact hf
/-- a row as far as it is written -/
def prow (k x : Nat) (f : Nat → Int) : List Int := (List.range x).map f ++ List.replicate (k - x) 0
theorem prow_len {k x : Nat} (f : Nat → Int) (h : x ≤ k) : (prow k x f).length = k := by unfold prow; simp; omega
theorem prow_set {k x : Nat} (f : Nat → Int) (h : x < k) : (prow k x f).set x (f x) = prow k (x + 1) f := by
  unfold prow
  rw [List.set_append_right _ _ (by simp), List.length_map, List.length_range, Nat.sub_self, show k - x = (k - (x + 1)) + 1 by omega, List.replicate_succ, List.set_cons_zero, List.range_succ, List.map_append, List.append_assoc]
  rfl
theorem prow_done (k : Nat) (f : Nat → Int) : prow k k f = (List.range k).map f := by unfold prow; simp
theorem prow_zero (k : Nat) (f : Nat → Int) : prow k 0 f = List.replicate k 0 := by unfold prow; simp
theorem made_rowsP (w : World) (n : Nat) (hn : n ≤ 1048576) : (Instr.makeSlice 53 (.int .i64 (n : Int)) (.int .i64 (n : Int))).run Try.prog w = .ok (.slice (some ⟨w.heap.size, 0, none⟩) n n) (w.alloc (.cells (madeCells (Array.replicate 1 (.slice none 0 0)) (n * 1)) 29)) := by
  obtain ⟨i, hi, hzz⟩ := Option.map_eq_some_iff.1 info_intsJ
  simp only [Prod.mk.injEq] at hzz
  obtain ⟨hz, hs, hb⟩ := hzz
  have := run_make (P := Try.prog) w 53 29 i _ Try.underlying53 hi hz .i64 .i64 n n (by omega) (Int.le_refl _) (by rw [hb]; omega) (by omega)
  simp only [Int.toNat_natCast, hs] at this
  exact this
theorem mkL_snoc {k j : Nat} {f : Mx} (h : j < k) : (mkL k f).take j ++ [prow k k (f j)] = (mkL k f).take (j + 1) := by rw [prow_done]; exact mkL_step h
set_option maxHeartbeats 4000000 in
set_option maxRecDepth 100000 in
theorem moC (k : Nat) (b : Nat) (F : Mx) (w : World) (hk : k ≤ 5)
    (hcall : ∀ (i j : Nat) (W : World), i < k → j < k → Below w.heap.size w W → Calls Try.prog 62 #[.int .i64 i, .int .i64 j, .pointer (some ⟨b, 0, none⟩)] W fun e W' => e = .returned (.int .i64 (F i j)) ∧ Below W.heap.size W W') :
    Calls Try.prog 58 #[.int .i64 k, .func (.func 62) #[] #[.pointer (some ⟨b, 0, none⟩)]] w fun e w' => ∃ bs, e = .returned (.slice (some ⟨w.heap.size, 0, none⟩) k k) ∧ GridO w' 3 29 w.heap.size w.heap.size k bs (mkL k F) ∧ Below w.heap.size w w' := by
  have hm : ∀ w : World, (Instr.makeSlice 53 (.int .i64 (k : Int)) (.int .i64 (k : Int))).run Try.prog w = .ok (.slice (some ⟨w.heap.size, 0, none⟩) k k) (w.alloc (.cells (madeCells (Array.replicate 1 (.slice none 0 0)) (k * 1)) 29)) := fun w => made_rowsP w k (by omega)
  have hm2 := fun w => made_ints w k (by omega)
  have H0 := Lib.hid (GridT.made w 3 29 k (by omega))
  go_enter Try.func58, Try.ntmps58
  go_wp2_with fail
  clear hm
  go_loopw [12] (fun i wr => ∃ (j : Nat) (bs : List (Nat × Nat)), j ≤ k ∧ i = .int .i64 j ∧ GridT wr 3 29 w.heap.size w.heap.size k bs ((mkL k F).take j) ∧ Below w.heap.size w wr) (fun i _ => k - (intOf i).toNat)
  case atStart => exact ⟨0, [], Nat.zero_le _, rfl, by simpa using H0.out, (by repeat (first | assumption | exact Below.refl _ _ | (refine below_chain ?_ (by assumption) (by first | omega | (simp <;> omega) | simp)) | (refine Below.alloc ?_ (by first | omega | (simp <;> omega) | simp) _) | (apply below_drewN) | (apply below_drew) | (refine Below.setCell ?_ (by first | omega | (simp <;> omega) | simp) _)))⟩
  case round =>
    clear H0
    obtain ⟨j, bs, hj, rfl, hg, hbr⟩ := hrel
    have hbs := hbr.size
    have hlg := hg.top.lt
    by_cases hlt : j < k
    · have hlt' : (j : Int) < (k : Int) := by omega
      have htl : ((mkL k F).take j).length = j := by rw [List.length_take, mkL_len]; omega
      have hz := hg.z
      obtain ⟨v0, hv0⟩ : ∃ v, wr.cell? ⟨w.heap.size, j, none⟩ = some v := by
        have h1 := hg.top.cells (i := j) (v := .slice none 0 0) (by
          rw [List.getElem?_append_right (by rw [rowVs_len hg.len, htl]; exact Nat.le_refl _), rowVs_len hg.len, htl, Nat.sub_self, List.getElem?_replicate, if_pos (by omega)])
        exact ⟨_, h1⟩
      have hf0 := hg.top.frozen j
      have HG := Lib.hid (And.intro hg (And.intro hbr (And.intro htl hz)))
      have ho := Own.made wr 3 k 1 (by decide) (by unfold maxLen; omega)
      have h2 := (hg.below ((Below.refl _ _).alloc (Nat.le_refl _) (.cells (madeCells (Array.replicate 1 (.int .i64 0)) (k * 1)) 3))).next (r := List.replicate k 0) (b := wr.heap.size) (c := k) (by rw [htl]; exact hlt) (by rw [List.length_replicate]; rw [Nat.mul_one] at ho ⊢; exact ho) ⟨hbs, by omega⟩ (fun i b' c' hb' e => by have := hz i b' c' hb'; omega)
      rw [htl, List.length_replicate, ← prow_zero k (F j)] at h2
      have HS := Lib.hid h2
      clear hg hbr htl hz ho h2
      go_wp2_with fail
      go_loopw [25] (fun i wi => ∃ x : Nat, x ≤ k ∧ i = .int .i64 x ∧ GridT wi 3 29 w.heap.size w.heap.size k (bs ++ [(wr.heap.size, k)]) ((mkL k F).take j ++ [prow k x (F j)]) ∧ Below w.heap.size w wi) (fun i _ => k - (intOf i).toNat)
      case atStart => exact ⟨0, Nat.zero_le _, rfl, by simpa [go_sem, hlg] using HS.out, ((HG.out.2.1.setCell (Nat.le_refl _) _).alloc (by simp; omega) _)⟩
      case round =>
        clear HS hv0 hf0
        rename World => wi
        obtain ⟨x, hx, rfl, hgi, hbi⟩ := hrel
        have hlen := HG.out.1.len
        rw [HG.out.2.2.1] at hlen
        have hbsj : (bs ++ [(wr.heap.size, k)])[j]? = some (wr.heap.size, k) := by rw [List.getElem?_append_right (by omega), hlen, Nat.sub_self]; rfl
        have hLj : ((mkL k F).take j ++ [prow k x (F j)])[j]? = some (prow k x (F j)) := by rw [List.getElem?_append_right (by rw [HG.out.2.2.1]; exact Nat.le_refl _), HG.out.2.2.1, Nat.sub_self]; rfl
        have ho := hgi.row j _ _ _ hbsj hLj
        rw [prow_len _ hx] at ho
        by_cases hxk : x < k
        · have hxk' : (x : Int) < (k : Int) := by omega
          have t0 := hgi.top.cells (i := j) (v := .slice (some ⟨wr.heap.size, 0, none⟩) k k) (by
            have := rowVs_at hbsj hLj
            rw [prow_len _ hx] at this
            rw [List.getElem?_append_left (List.getElem?_eq_some_iff.1 this).1]; exact this)
          obtain ⟨z0, hz0⟩ : ∃ z, (prow k x (F j))[x]? = some z := ⟨_, List.getElem?_eq_getElem (by rw [prow_len _ hx]; exact hxk)⟩
          have r0 := ho.cells (i := x) hz0
          have f0 := ho.frozen x
          have HI := Lib.hid (And.intro hgi (And.intro hbi (And.intro ho (And.intro hbsj hLj))))
          have hli := hbi.size
          have hlw := ho.lt
          have c1 := fun W h => Lib.hid (hcall j x W hlt hxk h)
          clear hgi hbi ho hbsj hLj hz0 hlen
          go_wp2_with fail
          have hne : ¬ wr.heap.size = w.heap.size := by omega
          have hne' : ¬ w.heap.size = wr.heap.size := by omega
          go_region_held3 (fun W => W.cell? ⟨w.heap.size, j, none⟩ = some (.slice (some ⟨wr.heap.size, 0, none⟩) k k)) (first | (go_keep; done) | ((with_reducible refine cell_below_keep (by with_reducible assumption) ?_); with_reducible assumption))
            (first | (go_at_call 62; (with_reducible refine ((c1 _ ?_).out).mono ?_); (focus (first | exact HI.out.2.1 | exact below_drew HI.out.2.1; done)); rintro e w2 ⟨rfl, hb_w2⟩; have r2 := cell_below_keep hb_w2 (cell_drew_keep r0); have f2 := frozen_below_keep hb_w2 (cell_drew_keep r0) f0))
          have hB2 : Below wi.heap.size wi w2 := (below_drew (Below.refl wi.heap.size wi)).trans hb_w2
          obtain ⟨hgi, hbi, ho, hbsj, hLj⟩ := HI.out
          have ho3 := (ho.below hB2).set x (F j x) (by rw [prow_len _ hx]; exact hxk)
          rw [prow_set _ hxk] at ho3
          have h3 := (hgi.below hB2).setRow hbsj hLj (r' := prow k (x + 1) (F j)) (by rw [prow_len _ hxk, prow_len _ hx]) (by rw [prow_len _ hxk]; exact ho3) (gb_oneO _ _ _ _)
          have h4 : ((mkL k F).take j ++ [prow k x (F j)]).set j (prow k (x + 1) (F j)) = (mkL k F).take j ++ [prow k (x + 1) (F j)] := by
            rw [List.set_append_right _ _ (by rw [HG.out.2.2.1]; exact Nat.le_refl _), HG.out.2.2.1, Nat.sub_self]; rfl
          rw [h4] at h3
          have HY := Lib.hid (And.intro h3 ((hbi.trans (hB2.mono hli)).setCell (p := ⟨wr.heap.size, x, none⟩) hbs (.int .i64 (F j x))))
          clear hgi hbi ho hbsj hLj ho3 h3 h4 hB2
          go_wp2_with fail
          go_roundw
          case rel => exact ⟨x + 1, by omega, by go_num, HY.out.1, HY.out.2⟩
          case measure => simp [intOf]; omega
        · have e : x = k := by omega
          subst e
          rw [mkL_snoc hlt] at hgi
          have HX := Lib.hid (And.intro hgi hbi)
          clear hgi hbi ho hbsj hLj hlen
          go_wp2_with fail
          go_roundw
          case rel => exact ⟨j + 1, _, by omega, by go_num, HX.out.1, HX.out.2⟩
          case measure => simp [intOf]; omega
    · have e : j = k := by omega
      subst e
      rw [List.take_of_length_le (by rw [mkL_len]; omega)] at hg
      have HX := Lib.hid (And.intro (hg.done mkL_len) hbr)
      clear hg hbr
      go_wp2_with fail
      go_ret
      exact ⟨bs, rfl, HX.out.1, HX.out.2⟩
set_option maxHeartbeats 4000000 in
set_option maxRecDepth 100000 in
theorem moT (k : Nat) (b : Nat) (F : Mx) (w : World) (hk : k ≤ 5)
    (hcall : ∀ (i j : Nat) (W : World), i < k → j < k → Below w.heap.size w W → Calls Try.prog 59 #[.int .i64 i, .int .i64 j, .pointer (some ⟨b, 0, none⟩)] W fun e W' => e = .returned (.int .i64 (F i j)) ∧ Below W.heap.size W W') :
    Calls Try.prog 58 #[.int .i64 k, .func (.func 59) #[] #[.pointer (some ⟨b, 0, none⟩)]] w fun e w' => ∃ bs, e = .returned (.slice (some ⟨w.heap.size, 0, none⟩) k k) ∧ GridO w' 3 29 w.heap.size w.heap.size k bs (mkL k F) ∧ Below w.heap.size w w' := by
  have hm : ∀ w : World, (Instr.makeSlice 53 (.int .i64 (k : Int)) (.int .i64 (k : Int))).run Try.prog w = .ok (.slice (some ⟨w.heap.size, 0, none⟩) k k) (w.alloc (.cells (madeCells (Array.replicate 1 (.slice none 0 0)) (k * 1)) 29)) := fun w => made_rowsP w k (by omega)
  have hm2 := fun w => made_ints w k (by omega)
  have H0 := Lib.hid (GridT.made w 3 29 k (by omega))
  go_enter Try.func58, Try.ntmps58
  go_wp2_with fail
  clear hm
  go_loopw [12] (fun i wr => ∃ (j : Nat) (bs : List (Nat × Nat)), j ≤ k ∧ i = .int .i64 j ∧ GridT wr 3 29 w.heap.size w.heap.size k bs ((mkL k F).take j) ∧ Below w.heap.size w wr) (fun i _ => k - (intOf i).toNat)
  case atStart => exact ⟨0, [], Nat.zero_le _, rfl, by simpa using H0.out, (by repeat (first | assumption | exact Below.refl _ _ | (refine below_chain ?_ (by assumption) (by first | omega | (simp <;> omega) | simp)) | (refine Below.alloc ?_ (by first | omega | (simp <;> omega) | simp) _) | (apply below_drewN) | (apply below_drew) | (refine Below.setCell ?_ (by first | omega | (simp <;> omega) | simp) _)))⟩
  case round =>
    clear H0
    obtain ⟨j, bs, hj, rfl, hg, hbr⟩ := hrel
    have hbs := hbr.size
    have hlg := hg.top.lt
    by_cases hlt : j < k
    · have hlt' : (j : Int) < (k : Int) := by omega
      have htl : ((mkL k F).take j).length = j := by rw [List.length_take, mkL_len]; omega
      have hz := hg.z
      obtain ⟨v0, hv0⟩ : ∃ v, wr.cell? ⟨w.heap.size, j, none⟩ = some v := by
        have h1 := hg.top.cells (i := j) (v := .slice none 0 0) (by
          rw [List.getElem?_append_right (by rw [rowVs_len hg.len, htl]; exact Nat.le_refl _), rowVs_len hg.len, htl, Nat.sub_self, List.getElem?_replicate, if_pos (by omega)])
        exact ⟨_, h1⟩
      have hf0 := hg.top.frozen j
      have HG := Lib.hid (And.intro hg (And.intro hbr (And.intro htl hz)))
      have ho := Own.made wr 3 k 1 (by decide) (by unfold maxLen; omega)
      have h2 := (hg.below ((Below.refl _ _).alloc (Nat.le_refl _) (.cells (madeCells (Array.replicate 1 (.int .i64 0)) (k * 1)) 3))).next (r := List.replicate k 0) (b := wr.heap.size) (c := k) (by rw [htl]; exact hlt) (by rw [List.length_replicate]; rw [Nat.mul_one] at ho ⊢; exact ho) ⟨hbs, by omega⟩ (fun i b' c' hb' e => by have := hz i b' c' hb'; omega)
      rw [htl, List.length_replicate, ← prow_zero k (F j)] at h2
      have HS := Lib.hid h2
      clear hg hbr htl hz ho h2
      go_wp2_with fail
      go_loopw [25] (fun i wi => ∃ x : Nat, x ≤ k ∧ i = .int .i64 x ∧ GridT wi 3 29 w.heap.size w.heap.size k (bs ++ [(wr.heap.size, k)]) ((mkL k F).take j ++ [prow k x (F j)]) ∧ Below w.heap.size w wi) (fun i _ => k - (intOf i).toNat)
      case atStart => exact ⟨0, Nat.zero_le _, rfl, by simpa [go_sem, hlg] using HS.out, ((HG.out.2.1.setCell (Nat.le_refl _) _).alloc (by simp; omega) _)⟩
      case round =>
        clear HS hv0 hf0
        rename World => wi
        obtain ⟨x, hx, rfl, hgi, hbi⟩ := hrel
        have hlen := HG.out.1.len
        rw [HG.out.2.2.1] at hlen
        have hbsj : (bs ++ [(wr.heap.size, k)])[j]? = some (wr.heap.size, k) := by rw [List.getElem?_append_right (by omega), hlen, Nat.sub_self]; rfl
        have hLj : ((mkL k F).take j ++ [prow k x (F j)])[j]? = some (prow k x (F j)) := by rw [List.getElem?_append_right (by rw [HG.out.2.2.1]; exact Nat.le_refl _), HG.out.2.2.1, Nat.sub_self]; rfl
        have ho := hgi.row j _ _ _ hbsj hLj
        rw [prow_len _ hx] at ho
        by_cases hxk : x < k
        · have hxk' : (x : Int) < (k : Int) := by omega
          have t0 := hgi.top.cells (i := j) (v := .slice (some ⟨wr.heap.size, 0, none⟩) k k) (by
            have := rowVs_at hbsj hLj
            rw [prow_len _ hx] at this
            rw [List.getElem?_append_left (List.getElem?_eq_some_iff.1 this).1]; exact this)
          obtain ⟨z0, hz0⟩ : ∃ z, (prow k x (F j))[x]? = some z := ⟨_, List.getElem?_eq_getElem (by rw [prow_len _ hx]; exact hxk)⟩
          have r0 := ho.cells (i := x) hz0
          have f0 := ho.frozen x
          have HI := Lib.hid (And.intro hgi (And.intro hbi (And.intro ho (And.intro hbsj hLj))))
          have hli := hbi.size
          have hlw := ho.lt
          have c1 := fun W h => Lib.hid (hcall j x W hlt hxk h)
          clear hgi hbi ho hbsj hLj hz0 hlen
          go_wp2_with fail
          have hne : ¬ wr.heap.size = w.heap.size := by omega
          have hne' : ¬ w.heap.size = wr.heap.size := by omega
          go_region_held3 (fun W => W.cell? ⟨w.heap.size, j, none⟩ = some (.slice (some ⟨wr.heap.size, 0, none⟩) k k)) (first | (go_keep; done) | ((with_reducible refine cell_below_keep (by with_reducible assumption) ?_); with_reducible assumption))
            (first | (go_at_call 59; (with_reducible refine ((c1 _ ?_).out).mono ?_); (focus (first | exact HI.out.2.1 | exact below_drew HI.out.2.1; done)); rintro e w2 ⟨rfl, hb_w2⟩; have r2 := cell_below_keep hb_w2 (cell_drew_keep r0); have f2 := frozen_below_keep hb_w2 (cell_drew_keep r0) f0))
          have hB2 : Below wi.heap.size wi w2 := (below_drew (Below.refl wi.heap.size wi)).trans hb_w2
          obtain ⟨hgi, hbi, ho, hbsj, hLj⟩ := HI.out
          have ho3 := (ho.below hB2).set x (F j x) (by rw [prow_len _ hx]; exact hxk)
          rw [prow_set _ hxk] at ho3
          have h3 := (hgi.below hB2).setRow hbsj hLj (r' := prow k (x + 1) (F j)) (by rw [prow_len _ hxk, prow_len _ hx]) (by rw [prow_len _ hxk]; exact ho3) (gb_oneO _ _ _ _)
          have h4 : ((mkL k F).take j ++ [prow k x (F j)]).set j (prow k (x + 1) (F j)) = (mkL k F).take j ++ [prow k (x + 1) (F j)] := by
            rw [List.set_append_right _ _ (by rw [HG.out.2.2.1]; exact Nat.le_refl _), HG.out.2.2.1, Nat.sub_self]; rfl
          rw [h4] at h3
          have HY := Lib.hid (And.intro h3 ((hbi.trans (hB2.mono hli)).setCell (p := ⟨wr.heap.size, x, none⟩) hbs (.int .i64 (F j x))))
          clear hgi hbi ho hbsj hLj ho3 h3 h4 hB2
          go_wp2_with fail
          go_roundw
          case rel => exact ⟨x + 1, by omega, by go_num, HY.out.1, HY.out.2⟩
          case measure => simp [intOf]; omega
        · have e : x = k := by omega
          subst e
          rw [mkL_snoc hlt] at hgi
          have HX := Lib.hid (And.intro hgi hbi)
          clear hgi hbi ho hbsj hLj hlen
          go_wp2_with fail
          go_roundw
          case rel => exact ⟨j + 1, _, by omega, by go_num, HX.out.1, HX.out.2⟩
          case measure => simp [intOf]; omega
    · have e : j = k := by omega
      subst e
      rw [List.take_of_length_le (by rw [mkL_len]; omega)] at hg
      have HX := Lib.hid (And.intro (hg.done mkL_len) hbr)
      clear hg hbr
      go_wp2_with fail
      go_ret
      exact ⟨bs, rfl, HX.out.1, HX.out.2⟩
set_option maxHeartbeats 4000000 in
set_option maxRecDepth 100000 in
theorem moM (k : Nat) (b b2 : Nat) (F : Mx) (w : World) (hk : k ≤ 5)
    (hcall : ∀ (i j : Nat) (W : World), i < k → j < k → Below w.heap.size w W → Calls Try.prog 60 #[.int .i64 i, .int .i64 j, .pointer (some ⟨b, 0, none⟩), .pointer (some ⟨b2, 0, none⟩)] W fun e W' => e = .returned (.int .i64 (F i j)) ∧ Below W.heap.size W W') :
    Calls Try.prog 58 #[.int .i64 k, .func (.func 60) #[] #[.pointer (some ⟨b, 0, none⟩), .pointer (some ⟨b2, 0, none⟩)]] w fun e w' => ∃ bs, e = .returned (.slice (some ⟨w.heap.size, 0, none⟩) k k) ∧ GridO w' 3 29 w.heap.size w.heap.size k bs (mkL k F) ∧ Below w.heap.size w w' := by
  have hm : ∀ w : World, (Instr.makeSlice 53 (.int .i64 (k : Int)) (.int .i64 (k : Int))).run Try.prog w = .ok (.slice (some ⟨w.heap.size, 0, none⟩) k k) (w.alloc (.cells (madeCells (Array.replicate 1 (.slice none 0 0)) (k * 1)) 29)) := fun w => made_rowsP w k (by omega)
  have hm2 := fun w => made_ints w k (by omega)
  have H0 := Lib.hid (GridT.made w 3 29 k (by omega))
  go_enter Try.func58, Try.ntmps58
  go_wp2_with fail
  clear hm
  go_loopw [12] (fun i wr => ∃ (j : Nat) (bs : List (Nat × Nat)), j ≤ k ∧ i = .int .i64 j ∧ GridT wr 3 29 w.heap.size w.heap.size k bs ((mkL k F).take j) ∧ Below w.heap.size w wr) (fun i _ => k - (intOf i).toNat)
  case atStart => exact ⟨0, [], Nat.zero_le _, rfl, by simpa using H0.out, (by repeat (first | assumption | exact Below.refl _ _ | (refine below_chain ?_ (by assumption) (by first | omega | (simp <;> omega) | simp)) | (refine Below.alloc ?_ (by first | omega | (simp <;> omega) | simp) _) | (apply below_drewN) | (apply below_drew) | (refine Below.setCell ?_ (by first | omega | (simp <;> omega) | simp) _)))⟩
  case round =>
    clear H0
    obtain ⟨j, bs, hj, rfl, hg, hbr⟩ := hrel
    have hbs := hbr.size
    have hlg := hg.top.lt
    by_cases hlt : j < k
    · have hlt' : (j : Int) < (k : Int) := by omega
      have htl : ((mkL k F).take j).length = j := by rw [List.length_take, mkL_len]; omega
      have hz := hg.z
      obtain ⟨v0, hv0⟩ : ∃ v, wr.cell? ⟨w.heap.size, j, none⟩ = some v := by
        have h1 := hg.top.cells (i := j) (v := .slice none 0 0) (by
          rw [List.getElem?_append_right (by rw [rowVs_len hg.len, htl]; exact Nat.le_refl _), rowVs_len hg.len, htl, Nat.sub_self, List.getElem?_replicate, if_pos (by omega)])
        exact ⟨_, h1⟩
      have hf0 := hg.top.frozen j
      have HG := Lib.hid (And.intro hg (And.intro hbr (And.intro htl hz)))
      have ho := Own.made wr 3 k 1 (by decide) (by unfold maxLen; omega)
      have h2 := (hg.below ((Below.refl _ _).alloc (Nat.le_refl _) (.cells (madeCells (Array.replicate 1 (.int .i64 0)) (k * 1)) 3))).next (r := List.replicate k 0) (b := wr.heap.size) (c := k) (by rw [htl]; exact hlt) (by rw [List.length_replicate]; rw [Nat.mul_one] at ho ⊢; exact ho) ⟨hbs, by omega⟩ (fun i b' c' hb' e => by have := hz i b' c' hb'; omega)
      rw [htl, List.length_replicate, ← prow_zero k (F j)] at h2
      have HS := Lib.hid h2
      clear hg hbr htl hz ho h2
      go_wp2_with fail
      go_loopw [25] (fun i wi => ∃ x : Nat, x ≤ k ∧ i = .int .i64 x ∧ GridT wi 3 29 w.heap.size w.heap.size k (bs ++ [(wr.heap.size, k)]) ((mkL k F).take j ++ [prow k x (F j)]) ∧ Below w.heap.size w wi) (fun i _ => k - (intOf i).toNat)
      case atStart => exact ⟨0, Nat.zero_le _, rfl, by simpa [go_sem, hlg] using HS.out, ((HG.out.2.1.setCell (Nat.le_refl _) _).alloc (by simp; omega) _)⟩
      case round =>
        clear HS hv0 hf0
        rename World => wi
        obtain ⟨x, hx, rfl, hgi, hbi⟩ := hrel
        have hlen := HG.out.1.len
        rw [HG.out.2.2.1] at hlen
        have hbsj : (bs ++ [(wr.heap.size, k)])[j]? = some (wr.heap.size, k) := by rw [List.getElem?_append_right (by omega), hlen, Nat.sub_self]; rfl
        have hLj : ((mkL k F).take j ++ [prow k x (F j)])[j]? = some (prow k x (F j)) := by rw [List.getElem?_append_right (by rw [HG.out.2.2.1]; exact Nat.le_refl _), HG.out.2.2.1, Nat.sub_self]; rfl
        have ho := hgi.row j _ _ _ hbsj hLj
        rw [prow_len _ hx] at ho
        by_cases hxk : x < k
        · have hxk' : (x : Int) < (k : Int) := by omega
          have t0 := hgi.top.cells (i := j) (v := .slice (some ⟨wr.heap.size, 0, none⟩) k k) (by
            have := rowVs_at hbsj hLj
            rw [prow_len _ hx] at this
            rw [List.getElem?_append_left (List.getElem?_eq_some_iff.1 this).1]; exact this)
          obtain ⟨z0, hz0⟩ : ∃ z, (prow k x (F j))[x]? = some z := ⟨_, List.getElem?_eq_getElem (by rw [prow_len _ hx]; exact hxk)⟩
          have r0 := ho.cells (i := x) hz0
          have f0 := ho.frozen x
          have HI := Lib.hid (And.intro hgi (And.intro hbi (And.intro ho (And.intro hbsj hLj))))
          have hli := hbi.size
          have hlw := ho.lt
          have c1 := fun W h => Lib.hid (hcall j x W hlt hxk h)
          clear hgi hbi ho hbsj hLj hz0 hlen
          go_wp2_with fail
          have hne : ¬ wr.heap.size = w.heap.size := by omega
          have hne' : ¬ w.heap.size = wr.heap.size := by omega
          go_region_held3 (fun W => W.cell? ⟨w.heap.size, j, none⟩ = some (.slice (some ⟨wr.heap.size, 0, none⟩) k k)) (first | (go_keep; done) | ((with_reducible refine cell_below_keep (by with_reducible assumption) ?_); with_reducible assumption))
            (first | (go_at_call 60; (with_reducible refine ((c1 _ ?_).out).mono ?_); (focus (first | exact HI.out.2.1 | exact below_drew HI.out.2.1; done)); rintro e w2 ⟨rfl, hb_w2⟩; have r2 := cell_below_keep hb_w2 (cell_drew_keep r0); have f2 := frozen_below_keep hb_w2 (cell_drew_keep r0) f0))
          have hB2 : Below wi.heap.size wi w2 := (below_drew (Below.refl wi.heap.size wi)).trans hb_w2
          obtain ⟨hgi, hbi, ho, hbsj, hLj⟩ := HI.out
          have ho3 := (ho.below hB2).set x (F j x) (by rw [prow_len _ hx]; exact hxk)
          rw [prow_set _ hxk] at ho3
          have h3 := (hgi.below hB2).setRow hbsj hLj (r' := prow k (x + 1) (F j)) (by rw [prow_len _ hxk, prow_len _ hx]) (by rw [prow_len _ hxk]; exact ho3) (gb_oneO _ _ _ _)
          have h4 : ((mkL k F).take j ++ [prow k x (F j)]).set j (prow k (x + 1) (F j)) = (mkL k F).take j ++ [prow k (x + 1) (F j)] := by
            rw [List.set_append_right _ _ (by rw [HG.out.2.2.1]; exact Nat.le_refl _), HG.out.2.2.1, Nat.sub_self]; rfl
          rw [h4] at h3
          have HY := Lib.hid (And.intro h3 ((hbi.trans (hB2.mono hli)).setCell (p := ⟨wr.heap.size, x, none⟩) hbs (.int .i64 (F j x))))
          clear hgi hbi ho hbsj hLj ho3 h3 h4 hB2
          go_wp2_with fail
          go_roundw
          case rel => exact ⟨x + 1, by omega, by go_num, HY.out.1, HY.out.2⟩
          case measure => simp [intOf]; omega
        · have e : x = k := by omega
          subst e
          rw [mkL_snoc hlt] at hgi
          have HX := Lib.hid (And.intro hgi hbi)
          clear hgi hbi ho hbsj hLj hlen
          go_wp2_with fail
          go_roundw
          case rel => exact ⟨j + 1, _, by omega, by go_num, HX.out.1, HX.out.2⟩
          case measure => simp [intOf]; omega
    · have e : j = k := by omega
      subst e
      rw [List.take_of_length_le (by rw [mkL_len]; omega)] at hg
      have HX := Lib.hid (And.intro (hg.done mkL_len) hbr)
      clear hg hbr
      go_wp2_with fail
      go_ret
      exact ⟨bs, rfl, HX.out.1, HX.out.2⟩
end Go.Proofs.Ythpfhbogpnhgmaa
