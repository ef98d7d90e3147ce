/-
  The program's matrices made from functions of both indexes: one theorem for each such function. (Written by genmo.py.)
  The program's matrices copied, turned and multiplied; MatTurn.
  The program's elimination: a multiple of a row subtracted from another one, a column cleared.
  The program's determinant, and matrices with a column replaced.
  The program's matrices, by contract.
-/
import Derived.Test.YtoaomjchaihkaaaGreatDoorZd
namespace Go.Proofs.YtoaomjchaihkaaaGreatDoor
open Go.RowKit
set_option linter.unusedVariables false

/-- a row of those that stand written -/
theorem GridT.setRow {w w' : World} {TI TR : TypeId} {lo g n i b c : Nat} {bs : List (Nat × Nat)} {L : List (List Int)} {r r' : List Int} (h : GridT w TI TR lo g n bs L) (hb : bs[i]? = some (b, c)) (hr : L[i]? = some r) (hl : r'.length = r.length) (ho : Own w' b TI 1 r'.length c r') (hg : w.grownBy w' (some b)) : GridT w' TI TR lo g n bs (L.set i r') := by
  have hne := (h.far i b c hb).2
  refine ⟨?_, by rw [List.length_set]; exact h.len, fun j b' c' x hb' hx => ?_, h.far, h.dis, h.low⟩
  · rw [List.length_set, rowVs_set hr hl]
    exact h.top.grown hg (Ne.symm hne)
  · by_cases e : j = i
    · subst e
      rw [hb] at hb'; cases hb'
      rw [List.getElem?_set, if_pos rfl, if_pos (List.getElem?_eq_some_iff.1 hr).1] at hx
      cases hx
      exact ho
    · rw [List.getElem?_set, if_neg (Ne.symm e)] at hx
      exact (h.row j b' c' x hb' hx).grown hg (h.dis j i b' c' b c hb' hb e)
theorem gb_oneO (w : World) (B i : Nat) (v : Value) : w.grownBy (w.setCell ⟨B, i, none⟩ v) (some B) := ⟨rfl, rfl, rfl, by simp, fun k hk hne => Deep.blk_setCell_other _ _ _ _ (by simpa using hne)⟩
theorem frozen_below_keep {w w' : World} {p : Addr} {v : Value} (h : Below w.heap.size w w') (hc : w.cell? p = some v) (hf : w.frozen? p = false) : w'.frozen? p = false := by
  rw [h.frozen (World.block_lt_of_cell? w _ hc)]; exact hf
/-- a row as far as it is written -/
def prow (k x : Nat) (f : Nat → Int) : List Int := (List.range x).map f ++ List.replicate (k - x) 0
theorem prow_len {k x : Nat} (f : Nat → Int) (h : x ≤ k) : (prow k x f).length = k := by unfold prow; simp; omega
theorem prow_set {k x : Nat} (f : Nat → Int) (h : x < k) : (prow k x f).set x (f x) = prow k (x + 1) f := by
  unfold prow
  rw [List.set_append_right _ _ (by simp), List.length_map, List.length_range, Nat.sub_self, show k - x = (k - (x + 1)) + 1 by omega, List.replicate_succ, List.set_cons_zero, List.range_succ, List.map_append, List.append_assoc]
  rfl
theorem prow_done (k : Nat) (f : Nat → Int) : prow k k f = (List.range k).map f := by unfold prow; simp
theorem prow_zero (k : Nat) (f : Nat → Int) : prow k 0 f = List.replicate k 0 := by unfold prow; simp
theorem made_rowsP (w : World) (n : Nat) (hn : n ≤ 1048576) : (Instr.makeSlice 64 (.int .i64 (n : Int)) (.int .i64 (n : Int))).run Tryz.prog w = .ok (.slice (some ⟨w.heap.size, 0, none⟩) n n) (w.alloc (.cells (madeCells (Array.replicate 1 (.slice none 0 0)) (n * 1)) 30)) := by
  obtain ⟨i, hi, hzz⟩ := Option.map_eq_some_iff.1 info_intsJ
  simp only [Prod.mk.injEq] at hzz
  obtain ⟨hz, hs, hb⟩ := hzz
  have := run_make (P := Tryz.prog) w 64 30 i _ Tryz.underlying64 hi hz .i64 .i64 n n (by omega) (Int.le_refl _) (by rw [hb]; omega) (by omega)
  simp only [Int.toNat_natCast, hs] at this
  exact this
theorem mkL_snoc {k j : Nat} {f : Mx} (h : j < k) : (mkL k f).take j ++ [prow k k (f j)] = (mkL k f).take (j + 1) := by rw [prow_done]; exact mkL_step h
set_option maxHeartbeats 4000000 in
set_option maxRecDepth 100000 in
theorem moC (k : Nat) (b : Nat) (F : Mx) (w : World) (hk : k ≤ 5)
    (hcall : ∀ (i j : Nat) (W : World), i < k → j < k → Below w.heap.size w W → Calls Tryz.prog 125 #[.int .i64 i, .int .i64 j, .pointer (some ⟨b, 0, none⟩)] W fun e W' => e = .returned (.int .i64 (F i j)) ∧ Below W.heap.size W W') :
    Calls Tryz.prog 109 #[.int .i64 k, .func (.func 125) #[] #[.pointer (some ⟨b, 0, none⟩)]] w fun e w' => ∃ bs, e = .returned (.slice (some ⟨w.heap.size, 0, none⟩) k k) ∧ GridO w' 3 30 w.heap.size w.heap.size k bs (mkL k F) ∧ Below w.heap.size w w' := by
  have hm : ∀ w : World, (Instr.makeSlice 64 (.int .i64 (k : Int)) (.int .i64 (k : Int))).run Tryz.prog w = .ok (.slice (some ⟨w.heap.size, 0, none⟩) k k) (w.alloc (.cells (madeCells (Array.replicate 1 (.slice none 0 0)) (k * 1)) 30)) := fun w => made_rowsP w k (by omega)
  have hm2 := fun w => made_ints w k (by omega)
  have H0 := Lib.hid (GridT.made w 3 30 k (by omega))
  go_enter Tryz.func109, Tryz.ntmps109
  go_wp2_with fail
  clear hm
  go_loopw [12] (fun i wr => ∃ (j : Nat) (bs : List (Nat × Nat)), j ≤ k ∧ i = .int .i64 j ∧ GridT wr 3 30 w.heap.size w.heap.size k bs ((mkL k F).take j) ∧ Below w.heap.size w wr) (fun i _ => k - (intOf i).toNat)
  case atStart => exact ⟨0, [], Nat.zero_le _, rfl, by simpa using H0.out, (by repeat (first | assumption | exact Below.refl _ _ | (refine below_chain ?_ (by assumption) (by first | omega | (simp <;> omega) | simp)) | (refine Below.alloc ?_ (by first | omega | (simp <;> omega) | simp) _) | (apply below_drewN) | (apply below_drew) | (refine Below.setCell ?_ (by first | omega | (simp <;> omega) | simp) _)))⟩
  case round =>
    clear H0
    obtain ⟨j, bs, hj, rfl, hg, hbr⟩ := hrel
    have hbs := hbr.size
    have hlg := hg.top.lt
    by_cases hlt : j < k
    · have hlt' : (j : Int) < (k : Int) := by omega
      have htl : ((mkL k F).take j).length = j := by rw [List.length_take, mkL_len]; omega
      have hz := hg.z
      obtain ⟨v0, hv0⟩ : ∃ v, wr.cell? ⟨w.heap.size, j, none⟩ = some v := by
        have h1 := hg.top.cells (i := j) (v := .slice none 0 0) (by
          rw [List.getElem?_append_right (by rw [rowVs_len hg.len, htl]; exact Nat.le_refl _), rowVs_len hg.len, htl, Nat.sub_self, List.getElem?_replicate, if_pos (by omega)])
        exact ⟨_, h1⟩
      have hf0 := hg.top.frozen j
      have HG := Lib.hid (And.intro hg (And.intro hbr (And.intro htl hz)))
      have ho := Own.made wr 3 k 1 (by decide) (by unfold maxLen; omega)
      have h2 := (hg.below ((Below.refl _ _).alloc (Nat.le_refl _) (.cells (madeCells (Array.replicate 1 (.int .i64 0)) (k * 1)) 3))).next (r := List.replicate k 0) (b := wr.heap.size) (c := k) (by rw [htl]; exact hlt) (by rw [List.length_replicate]; rw [Nat.mul_one] at ho ⊢; exact ho) ⟨hbs, by omega⟩ (fun i b' c' hb' e => by have := hz i b' c' hb'; omega)
      rw [htl, List.length_replicate, ← prow_zero k (F j)] at h2
      have HS := Lib.hid h2
      clear hg hbr htl hz ho h2
      go_wp2_with fail
      go_loopw [25] (fun i wi => ∃ x : Nat, x ≤ k ∧ i = .int .i64 x ∧ GridT wi 3 30 w.heap.size w.heap.size k (bs ++ [(wr.heap.size, k)]) ((mkL k F).take j ++ [prow k x (F j)]) ∧ Below w.heap.size w wi) (fun i _ => k - (intOf i).toNat)
      case atStart => exact ⟨0, Nat.zero_le _, rfl, by simpa [go_sem, hlg] using HS.out, ((HG.out.2.1.setCell (Nat.le_refl _) _).alloc (by simp; omega) _)⟩
      case round =>
        clear HS hv0 hf0
        rename World => wi
        obtain ⟨x, hx, rfl, hgi, hbi⟩ := hrel
        have hlen := HG.out.1.len
        rw [HG.out.2.2.1] at hlen
        have hbsj : (bs ++ [(wr.heap.size, k)])[j]? = some (wr.heap.size, k) := by rw [List.getElem?_append_right (by omega), hlen, Nat.sub_self]; rfl
        have hLj : ((mkL k F).take j ++ [prow k x (F j)])[j]? = some (prow k x (F j)) := by rw [List.getElem?_append_right (by rw [HG.out.2.2.1]; exact Nat.le_refl _), HG.out.2.2.1, Nat.sub_self]; rfl
        have ho := hgi.row j _ _ _ hbsj hLj
        rw [prow_len _ hx] at ho
        by_cases hxk : x < k
        · have hxk' : (x : Int) < (k : Int) := by omega
          have t0 := hgi.top.cells (i := j) (v := .slice (some ⟨wr.heap.size, 0, none⟩) k k) (by
            have := rowVs_at hbsj hLj
            rw [prow_len _ hx] at this
            rw [List.getElem?_append_left (List.getElem?_eq_some_iff.1 this).1]; exact this)
          obtain ⟨z0, hz0⟩ : ∃ z, (prow k x (F j))[x]? = some z := ⟨_, List.getElem?_eq_getElem (by rw [prow_len _ hx]; exact hxk)⟩
          have r0 := ho.cells (i := x) hz0
          have f0 := ho.frozen x
          have HI := Lib.hid (And.intro hgi (And.intro hbi (And.intro ho (And.intro hbsj hLj))))
          have hli := hbi.size
          have hlw := ho.lt
          have c1 := fun W h => Lib.hid (hcall j x W hlt hxk h)
          clear hgi hbi ho hbsj hLj hz0 hlen
          go_wp2_with fail
          have hne : ¬ wr.heap.size = w.heap.size := by omega
          have hne' : ¬ w.heap.size = wr.heap.size := by omega
          go_region_held3 (fun W => W.cell? ⟨w.heap.size, j, none⟩ = some (.slice (some ⟨wr.heap.size, 0, none⟩) k k)) (first | (go_keep; done) | ((with_reducible refine cell_below_keep (by with_reducible assumption) ?_); with_reducible assumption))
            (first | (go_at_call 125; (with_reducible refine ((c1 _ ?_).out).mono ?_); (focus (first | exact HI.out.2.1 | exact below_drew HI.out.2.1; done)); rintro e w2 ⟨rfl, hb_w2⟩; have r2 := cell_below_keep hb_w2 (cell_drew_keep r0); have f2 := frozen_below_keep hb_w2 (cell_drew_keep r0) f0))
          have hB2 : Below wi.heap.size wi w2 := (below_drew (Below.refl wi.heap.size wi)).trans hb_w2
          obtain ⟨hgi, hbi, ho, hbsj, hLj⟩ := HI.out
          have ho3 := (ho.below hB2).set x (F j x) (by rw [prow_len _ hx]; exact hxk)
          rw [prow_set _ hxk] at ho3
          have h3 := (hgi.below hB2).setRow hbsj hLj (r' := prow k (x + 1) (F j)) (by rw [prow_len _ hxk, prow_len _ hx]) (by rw [prow_len _ hxk]; exact ho3) (gb_oneO _ _ _ _)
          have h4 : ((mkL k F).take j ++ [prow k x (F j)]).set j (prow k (x + 1) (F j)) = (mkL k F).take j ++ [prow k (x + 1) (F j)] := by
            rw [List.set_append_right _ _ (by rw [HG.out.2.2.1]; exact Nat.le_refl _), HG.out.2.2.1, Nat.sub_self]; rfl
          rw [h4] at h3
          have HY := Lib.hid (And.intro h3 ((hbi.trans (hB2.mono hli)).setCell (p := ⟨wr.heap.size, x, none⟩) hbs (.int .i64 (F j x))))
          clear hgi hbi ho hbsj hLj ho3 h3 h4 hB2
          go_wp2_with fail
          go_roundw
          case rel => exact ⟨x + 1, by omega, by go_num, HY.out.1, HY.out.2⟩
          case measure => simp [intOf]; omega
        · have e : x = k := by omega
          subst e
          rw [mkL_snoc hlt] at hgi
          have HX := Lib.hid (And.intro hgi hbi)
          clear hgi hbi ho hbsj hLj hlen
          go_wp2_with fail
          go_roundw
          case rel => exact ⟨j + 1, _, by omega, by go_num, HX.out.1, HX.out.2⟩
          case measure => simp [intOf]; omega
    · have e : j = k := by omega
      subst e
      rw [List.take_of_length_le (by rw [mkL_len]; omega)] at hg
      have HX := Lib.hid (And.intro (hg.done mkL_len) hbr)
      clear hg hbr
      go_wp2_with fail
      go_ret
      exact ⟨bs, rfl, HX.out.1, HX.out.2⟩
end Go.Proofs.YtoaomjchaihkaaaGreatDoor
namespace Go.Proofs.YtoaomjchaihkaaaGreatDoor
open Go.RowKit
set_option linter.unusedVariables false

theorem moC' (b k c : Nat) (p : Option Addr) (L : List (List Int)) (w : World) (hc : w.cell? ⟨b, 0, none⟩ = some (.slice p k c)) (h : GRead w p L) (hs : Sq k L) (hk : k ≤ 5) :
    Calls Tryz.prog 109 #[.int .i64 k, .func (.func 125) #[] #[.pointer (some ⟨b, 0, none⟩)]] w fun e w' => ∃ bs, e = .returned (.slice (some ⟨w.heap.size, 0, none⟩) k k) ∧ GridO w' 3 30 w.heap.size w.heap.size k bs L ∧ Below w.heap.size w w' := by
  have := moC k b (ent L) w hk (fun i j W hi hj hb => (cCopied b k c i j p L W (cell_below_keep hb hc) (h.below hb) hs hi hj).mono (by rintro e w' ⟨rfl, rfl⟩; exact ⟨rfl, Below.refl _ _⟩))
  rw [← hs.mk] at this
  exact this
/-- what a call that makes a matrix answers -/
def Made (w : World) (k : Nat) (L : List (List Int)) (e : Ending) (w' : World) : Prop :=
  ∃ g bs, e = .returned (.slice (some ⟨g, 0, none⟩) k k) ∧ GridO w' 3 30 w.heap.size g k bs L ∧ Below w.heap.size w w'
theorem iCopied (k c : Nat) (p : Option Addr) (L : List (List Int)) (w : World) (h : GRead w p L) (hs : Sq k L) (hk : k ≤ 5) :
    Calls Tryz.prog 105 #[.slice p k c] w (Made w k L) := by
  have c1 := fun b W hc h => Lib.hid (moC' b k c p L W hc h hs hk)
  have H := Lib.hid h
  have hb0 := Lib.hid ((Below.refl w.heap.size w).alloc (Nat.le_refl _) (.cells #[.slice p k c] 64))
  clear h hs
  go_enter Tryz.func105, Tryz.ntmps105
  go_wp2_with (go_at_call 109; (with_reducible refine ((c1 _ _ ?_ ?_).out).mono ?_); (focus (first | rfl | (simp [go_sem]; done))); (focus (exact H.out.below hb0.out; done)); rintro e w2 ⟨bs, rfl, hg_w2, hb_w2⟩; have HG := Lib.hid (And.intro hg_w2 hb_w2); clear hg_w2 hb_w2)
  go_ret
  have hl : w.heap.size ≤ (w.alloc (.cells #[.slice p k c] 64)).heap.size := by simp
  exact ⟨_, bs, rfl, by have := HG.out.1.mono hl; simpa using this, hb0.out.trans (HG.out.2.mono hl)⟩
end Go.Proofs.YtoaomjchaihkaaaGreatDoor
namespace Go.Proofs.YtoaomjchaihkaaaGreatDoor
open Go.RowKit
set_option linter.unusedVariables false

/-- a row from which a multiple of another one is subtracted, as far as number x -/
def subP (k x : Nat) (q : Int) (r o : List Int) : List Int := (List.range k).map (fun j => if j < x then IntKind.i64.wrap (num r j - IntKind.i64.wrap (q * num o j)) else num r j)
theorem subP_len (k x : Nat) (q : Int) (r o : List Int) : (subP k x q r o).length = k := by simp [subP]
theorem subP_zero {k : Nat} (q : Int) {r : List Int} (o : List Int) (h : r.length = k) : subP k 0 q r o = r :=
  list_num (by rw [subP_len, h]) (fun i hi => by rw [subP_len] at hi; unfold subP; rw [num_map hi, if_neg (by omega)])
theorem subP_done (k : Nat) (q : Int) (r o : List Int) : subP k k q r o = subR k q r o :=
  list_num (by rw [subP_len, subR_len]) (fun i hi => by rw [subP_len] at hi; rw [subR_num _ _ _ hi]; unfold subP; rw [num_map hi, if_pos hi])
theorem subP_at {k x : Nat} (q : Int) (r o : List Int) (h : x < k) : (subP k x q r o)[x]? = some (num r x) := by
  rw [at_num (by rw [subP_len]; exact h)]; unfold subP; rw [num_map h, if_neg (by omega)]
theorem subP_set {k x : Nat} (q : Int) (r o : List Int) (h : x < k) : (subP k x q r o).set x (IntKind.i64.wrap (num r x - IntKind.i64.wrap (q * num o x))) = subP k (x + 1) q r o := by
  refine List.ext_getElem? (fun i => ?_)
  rw [List.getElem?_set]
  by_cases e : x = i
  · subst e
    rw [if_pos rfl, if_pos (by rw [subP_len]; exact h), at_num (by rw [subP_len]; exact h)]
    unfold subP; rw [num_map h, if_pos (by omega)]
  · rw [if_neg e]
    by_cases hi : i < k
    · rw [at_num (by rw [subP_len]; exact hi), at_num (by rw [subP_len]; exact hi)]
      unfold subP; rw [num_map hi, num_map hi]
      by_cases h2 : i < x
      · rw [if_pos h2, if_pos (by omega)]
      · rw [if_neg h2, if_neg (by omega)]
    · rw [List.getElem?_eq_none (by rw [subP_len]; omega), List.getElem?_eq_none (by rw [subP_len]; omega)]
set_option maxHeartbeats 2000000 in
theorem iSubtract (g n c c2 : Nat) (q : Option Addr) (r o : List Int) (t : Int) (w : World) (h : Own w g 3 1 n c r) (hr : r.length = n) (hq : Ints w q o) (ho : o.length = n) (hn : n ≤ 5) (hne : ∀ a, q = some a → a.block ≠ g) :
    Calls Tryz.prog 126 #[.slice (some ⟨g, 0, none⟩) n c, .slice q n c2, .int .i64 t] w fun e w' => e = .returned (.tuple #[]) ∧ Own w' g 3 1 n c (subR n t r o) ∧ grew w w' g := by
  have H := Lib.hid (And.intro h (And.intro hr (And.intro hq ho)))
  have H0 : Hid (Own w g 3 1 n c (subP n 0 t r o)) := Lib.hid (by rw [subP_zero t o hr]; exact h)
  clear h hr hq ho
  go_enter Tryz.func126, Tryz.ntmps126
  go_wp2_with fail
  go_loopw [10] (fun i wr => ∃ x : Nat, x ≤ n ∧ i = .int .i64 x ∧ Own wr g 3 1 n c (subP n x t r o) ∧ grew w wr g) (fun i _ => n - (intOf i).toNat)
  case atStart => exact ⟨0, Nat.zero_le _, rfl, H0.out, grew.refl w g⟩
  case round =>
    clear H0
    rename World => wr
    obtain ⟨x, hx, rfl, hg, hb⟩ := hrel
    have hlg := hg.lt
    by_cases hlt : x < n
    · have hlt' : (x : Int) < (n : Int) := by omega
      obtain ⟨B, ob, z, rfl, hz, hB, e0⟩ := H.out.2.2.1.at (i := x) (by rw [H.out.2.2.2]; exact hlt)
      have hBg : B ≠ g := hne _ rfl
      have e1 : wr.cell? ⟨B, ob + x, none⟩ = some (.int .i64 z) := by
        have := hb.1.block B hB (by simp; exact hBg)
        exact (World.cell?_of_block (a := ⟨B, ob + x, none⟩) this).trans e0
      have e2 := hg.cells (subP_at t r o hlt)
      have f2 := hg.frozen x
      obtain ⟨y, hy⟩ : ∃ y, num r x = y := ⟨_, rfl⟩
      have hs := subP_set (k := n) t r o hlt
      rw [num_at hz] at hs
      have HX := Lib.hid (And.intro hg (And.intro hb hs))
      rw [hy] at e2 HX
      clear hg hb hs hz hy e0
      go_wp2_with fail
      have hgs := HX.out.1.set x (IntKind.i64.wrap (y - IntKind.i64.wrap (t * z))) (by rw [subP_len]; exact hlt)
      rw [HX.out.2.2] at hgs
      simp only [← IntWalk.i64_left]
      exact ⟨⟨x + 1, by omega, by go_num, hgs, HX.out.2.1.set x _⟩, by simp [intOf]; omega⟩
    · have e : x = n := by omega
      subst e
      rw [subP_done] at hg
      have HX := Lib.hid (And.intro hg hb)
      clear hg hb
      go_wp2_with fail
      refine bodyPost_end (results_none rfl _ _ _) rfl ⟨rfl, HX.out.1, HX.out.2⟩
theorem cell_grew_keep {w w' : World} {g b o : Nat} {v : Value} (hg : grew w.drew w' g) (hb : b < w.heap.size) (hne : b ≠ g) (h : w.drew.cell? ⟨b, o, none⟩ = some v) : w'.cell? ⟨b, o, none⟩ = some v :=
  (World.cell?_of_block (a := ⟨b, o, none⟩) (hg.1.block b hb (by simp; exact hne))).trans h
/-- how great a number of a row is, read off memory -/
def abAt (w : World) (g x c : Nat) : Nat :=
  match w.cell? ⟨g, x, none⟩ with
  | some (.slice (some p) _ _) => (match w.cell? ⟨p.block, c, none⟩ with | some (.int _ v) => v.natAbs | _ => 0)
  | _ => 0
theorem abAt_is {w : World} {lo g k cap x c : Nat} {bs : List (Nat × Nat)} {L : List (List Int)} (h : GridO w 3 30 lo g cap bs L) (hs : Sq k L) (hx : x < k) (hc : c < k) : abAt w g x c = (ent L x c).natAbs := by
  obtain ⟨b, cb, r, _, hr, e1, ho, _, _⟩ := h.at (i := x) (by rw [hs.1]; exact hx)
  have e2 := ho.cells (i := c) (at_num (by rw [hs.2 r (List.mem_of_getElem? hr)]; exact hc))
  have e3 : ent L x c = num r c := by unfold ent; rw [rowL_at hr]
  unfold abAt
  rw [e1]
  simp only
  rw [e2, e3]
/-- two places exchanged -/
def swx (i j t : Nat) : Nat := if t = j then i else if t = i then j else t
theorem swx_inj {i j s t : Nat} (h : swx i j s = swx i j t) : s = t := by unfold swx at h; split at h <;> split at h <;> (try split at h) <;> (try split at h) <;> omega
theorem swap_at {α : Type} {l : List α} {i j : Nat} {x y : α} (hi : l[i]? = some x) (hj : l[j]? = some y) (t : Nat) : ((l.set i y).set j x)[t]? = l[swx i j t]? := by
  have h1 := (List.getElem?_eq_some_iff.1 hi).1
  have h2 := (List.getElem?_eq_some_iff.1 hj).1
  unfold swx
  rw [List.getElem?_set]
  by_cases e : j = t
  · subst e; rw [if_pos rfl, if_pos (by rw [List.length_set]; exact h2), if_pos rfl, hi]
  · rw [if_neg e, if_neg (Ne.symm e), List.getElem?_set]
    by_cases e2 : i = t
    · subst e2; rw [if_pos rfl, if_pos h1, if_pos rfl, hj]
    · rw [if_neg e2, if_neg (Ne.symm e2)]
theorem rowVs_put : ∀ {bs : List (Nat × Nat)} {L : List (List Int)} {i b c : Nat} {r : List Int}, bs.length = L.length → rowVs (bs.set i (b, c)) (L.set i r) = (rowVs bs L).set i (.slice (some ⟨b, 0, none⟩) r.length c)
  | [], [], _, _, _, _, _ => by simp [rowVs]
  | [], _ :: _, _, _, _, _, h => by simp at h
  | _ :: _, [], _, _, _, _, h => by simp at h
  | (b', c') :: bs, r' :: L, 0, b, c, r, h => by simp [rowVs]
  | (b', c') :: bs, r' :: L, i + 1, b, c, r, h => by simp [rowVs, rowVs_put (bs := bs) (L := L) (by simpa using h)]
theorem GridO.swap {w : World} {TI TR : TypeId} {lo g cap i j bi ci bj cj : Nat} {bs : List (Nat × Nat)} {L : List (List Int)} {ri rj : List Int} (h : GridO w TI TR lo g cap bs L) (hij : ¬ i = j) (hbi : bs[i]? = some (bi, ci)) (hbj : bs[j]? = some (bj, cj)) (hri : L[i]? = some ri) (hrj : L[j]? = some rj) :
    GridO ((w.setCell ⟨g, i, none⟩ (.slice (some ⟨bj, 0, none⟩) rj.length cj)).setCell ⟨g, j, none⟩ (.slice (some ⟨bi, 0, none⟩) ri.length ci)) TI TR lo g cap ((bs.set i (bj, cj)).set j (bi, ci)) ((L.set i rj).set j ri) := by
  have hlb := h.len
  have hil := (List.getElem?_eq_some_iff.1 hri).1
  have hjl := (List.getElem?_eq_some_iff.1 hrj).1
  refine ⟨?_, by simp [hlb], fun t b c r hb hr => ?_, fun t b c hb => ?_, fun s t b c b' c' hb hb' hst => ?_, h.low⟩
  · rw [rowVs_put (by simp [hlb]), rowVs_put hlb, List.length_set, List.length_set]
    exact (h.top.set i _ (by rw [rowVs_len hlb]; exact hil)).set j _ (by rw [List.length_set, rowVs_len hlb]; exact hjl)
  · rw [swap_at hbi hbj] at hb
    rw [swap_at hri hrj] at hr
    have hne := (h.far _ b c hb).2
    exact ((h.row _ b c r hb hr).setOther (a := ⟨g, i, none⟩) hne _).setOther (a := ⟨g, j, none⟩) hne _
  · rw [swap_at hbi hbj] at hb
    exact h.far _ b c hb
  · rw [swap_at hbi hbj] at hb hb'
    exact h.dis _ _ b c b' c' hb hb' (fun e => hst (swx_inj e))
set_option maxHeartbeats 4000000 in
set_option maxRecDepth 100000 in
theorem iClear (lo g k cap c : Nat) (bs : List (Nat × Nat)) (L : List (List Int)) (w : World) (h : GridO w 3 30 lo g cap bs L) (hs : Sq k L) (hk : k ≤ 5) (hr : In64 k (ent L)) (ht : Tri k c (ent L)) (hc : c < k) :
    Calls Tryz.prog 106 #[.slice (some ⟨g, 0, none⟩) k cap, .int .i64 c] w fun e w' => ∃ (s : Int) (L' : List (List Int)) (bs' : List (Nat × Nat)), e = .returned (.int .i64 s) ∧ Elm k c k L L' s ∧ GridO w' 3 30 lo g cap bs' L' ∧ Below lo w w' := by
  have H0 := Lib.hid (And.intro h (Elm.start hs hr ht))
  have hll := h.low
  clear h hs hr ht
  go_enter Tryz.func106, Tryz.ntmps106
  go_wp2_with fail
  go_loopw [5, 6] (fun s i wr => ∃ (x : Nat) (z : Int) (M : List (List Int)) (bm : List (Nat × Nat)), c < x ∧ x ≤ k ∧ i = .int .i64 x ∧ s = .int .i64 z ∧ Elm k c x L M z ∧ GridO wr 3 30 lo g cap bm M ∧ Below lo w wr) (fun _ i _ => k - (intOf i).toNat)
  case atStart => exact ⟨c + 1, 1, L, bs, by omega, by omega, by go_num, rfl, H0.out.2, H0.out.1, Below.refl _ _⟩
  case round =>
    clear H0
    rename World => wr
    obtain ⟨x, z, M, bm, hx0, hx, rfl, rfl, he, hg, hb⟩ := hrel
    by_cases hlt : x < k
    · have hlt' : (x : Int) < (k : Int) := by omega
      have H0 := Lib.hid (And.intro he (And.intro hg hb))
      clear he hg hb
      go_wp2_with fail
      go_loopw [5] (fun s wi => ∃ (z : Int) (M : List (List Int)) (bm : List (Nat × Nat)), s = .int .i64 z ∧ Elm k c x L M z ∧ GridO wi 3 30 lo g cap bm M ∧ Below lo w wi) (fun _ wi => abAt wi g x c)
      case atStart => exact ⟨z, M, bm, rfl, H0.out.1, H0.out.2.1, H0.out.2.2⟩
      case round =>
        clear H0
        rename World => wi
        obtain ⟨z, M, bm, rfl, he, hg, hb⟩ := hrel
        have hlg := hg.lt
        obtain ⟨b1, d1, r1, hb1, hr1, e1, ho1, hl1, hn1⟩ := hg.at (i := c) (by rw [he.sq.1]; exact hc)
        obtain ⟨b2, d2, r2, hb2, hr2, e2, ho2, hl2, hn2⟩ := hg.at (i := x) (by rw [he.sq.1]; exact hlt)
        have hrl1 := he.sq.2 r1 (List.mem_of_getElem? hr1)
        have hrl2 := he.sq.2 r2 (List.mem_of_getElem? hr2)
        rw [hrl1] at e1 ho1
        rw [hrl2] at e2 ho2
        have hbb : b1 ≠ b2 := hg.dis c x b1 d1 b2 d2 hb1 hb2 (by omega)
        obtain ⟨X, hX⟩ : ∃ X, ent M c c = X := ⟨_, rfl⟩
        obtain ⟨y, hy⟩ : ∃ y, ent M x c = y := ⟨_, rfl⟩
        have l1 : wi.cell? ⟨b1, c, none⟩ = some (.int .i64 X) := ho1.cells (by rw [← hX]; show r1[c]? = some (num (rowL M c) c); rw [rowL_at hr1]; exact at_num (by rw [hrl1]; exact hc))
        have l2 : wi.cell? ⟨b2, c, none⟩ = some (.int .i64 y) := ho2.cells (by rw [← hy]; show r2[c]? = some (num (rowL M x) c); rw [rowL_at hr2]; exact at_num (by rw [hrl2]; exact hc))
        have hc' : (c : Int) < (k : Int) := by omega
        by_cases hy0 : y = 0
        · subst hy0
          have HX := Lib.hid (And.intro (he.next hy) (And.intro hg hb))
          clear he hg hb hr1 hr2 ho1 ho2 hX hy
          go_wp2_with fail
          exact ⟨⟨x + 1, z, M, bm, by omega, by omega, by go_num, rfl, HX.out.1, HX.out.2.1, HX.out.2.2⟩, by simp [intOf]; omega⟩
        · have HX := Lib.hid (And.intro he (And.intro hg (And.intro hb (And.intro hr1 (And.intro hr2 (And.intro ho1 (And.intro ho2 (And.intro hX hy))))))))
          have c1 := fun T W h hq => Lib.hid (iSubtract b1 k d1 d2 (some ⟨b2, 0, none⟩) r1 r2 T W h hrl1 hq hrl2 hk (fun a ha => by cases ha; exact fun e => hbb e.symm))
          have hlt1 := ho1.lt
          have hlt2 := ho2.lt
          clear he hg hb hr1 hr2 ho1 ho2 hX hy
          go_wp2_with fail
          refine wp_region_held_drew (S := fun W => W.cell? ⟨g, c, none⟩ = some (.slice (some ⟨b1, 0, none⟩) k d1) ∧ W.cell? ⟨g, x, none⟩ = some (.slice (some ⟨b2, 0, none⟩) k d2) ∧ W.cell? ⟨b2, c, none⟩ = some (.int .i64 y)) (by kernel_rfl) ⟨e1, e2, l2⟩ (fun hHeld => ?_)
          refine wpAnyH_take (i := 0) (v := ?v0) (List.getElem?_toArray.trans rfl) (by kernel_rfl) (by kernel_rfl) (by kernel_rfl) (fun _ _ _ h => h) (Or.inl ⟨by rfl, ?y0⟩) (by assumption) ?r0
          case y0 => (intro W hSw; (try dsimp only at hSw); go_simp; (try with_reducible rfl))
          case r0 =>
          simp only [Act.put, List.setIfInBounds_toArray, List.set_cons_zero, List.set_cons_succ]
          refine wpAnyH_take (i := 1) (v := ?v1) (List.getElem?_toArray.trans rfl) (by kernel_rfl) (by kernel_rfl) (by kernel_rfl) (fun _ _ _ h => h) (Or.inl ⟨by rfl, ?y1⟩) (by assumption) ?r1
          case y1 => (intro W hSw; (try dsimp only at hSw); go_simp; (try with_reducible rfl))
          case r1 =>
          simp only [Act.put, List.setIfInBounds_toArray, List.set_cons_zero, List.set_cons_succ]
          refine wpAnyH_take (i := 2) (v := ?v2) (List.getElem?_toArray.trans rfl) (by kernel_rfl) (by kernel_rfl) (by kernel_rfl) (fun _ _ _ h => h) (Or.inl ⟨by rfl, ?y2⟩) (by assumption) ?r2
          case y2 => (intro W hSw; (try dsimp only at hSw); go_simp; (try with_reducible rfl))
          case r2 =>
          simp only [Act.put, List.setIfInBounds_toArray, List.set_cons_zero, List.set_cons_succ]
          refine wpAnyH_take (i := 3) (v := ?v3) (List.getElem?_toArray.trans rfl) (by kernel_rfl) (by kernel_rfl) (by kernel_rfl) (fun _ _ _ h => h) (Or.inl ⟨by rfl, ?y3⟩) (by assumption) ?r3
          case y3 => (intro W hSw; (try dsimp only at hSw); go_simp; (try with_reducible rfl))
          case r3 =>
          simp only [Act.put, List.setIfInBounds_toArray, List.set_cons_zero, List.set_cons_succ]
          refine wpAnyH_take (i := 4) (v := ?v4) (List.getElem?_toArray.trans rfl) (by kernel_rfl) (by kernel_rfl) (by kernel_rfl) (fun _ _ _ h => h) (Or.inl ⟨by rfl, ?y4⟩) (by assumption) ?r4
          case y4 => (intro W hSw; (try dsimp only at hSw); go_simp; (try with_reducible rfl))
          case r4 =>
          simp only [Act.put, List.setIfInBounds_toArray, List.set_cons_zero, List.set_cons_succ]
          refine wpAnyH_take (i := 5) (v := ?v5) (List.getElem?_toArray.trans rfl) (by kernel_rfl) (by kernel_rfl) (by kernel_rfl) (fun _ _ _ h => h) (Or.inl ⟨by rfl, ?y5⟩) (by assumption) ?r5
          case y5 => (intro W hSw; (try dsimp only at hSw); go_simp; (try with_reducible rfl))
          case r5 =>
          simp only [Act.put, List.setIfInBounds_toArray, List.set_cons_zero, List.set_cons_succ]
          refine wpAnyH_take (i := 6) (v := ?v6) (List.getElem?_toArray.trans rfl) (by kernel_rfl) (by kernel_rfl) (by kernel_rfl) (fun _ _ _ h => h) (Or.inl ⟨by rfl, ?y6⟩) (by assumption) ?r6
          case y6 => (intro W hSw; (try dsimp only at hSw); go_simp; (try with_reducible rfl))
          case r6 =>
          simp only [Act.put, List.setIfInBounds_toArray, List.set_cons_zero, List.set_cons_succ]
          refine wpAnyH_take (i := 7) (v := ?v7) (List.getElem?_toArray.trans rfl) (by kernel_rfl) (by kernel_rfl) (by kernel_rfl) (fun _ _ _ h => h) (Or.inl ⟨by rfl, ?y7⟩) (by assumption) ?r7
          case y7 => (intro W hSw; (try dsimp only at hSw); go_simp; (try with_reducible rfl))
          case r7 =>
          simp only [Act.put, List.setIfInBounds_toArray, List.set_cons_zero, List.set_cons_succ]
          refine wpAnyH_take (i := 8) (v := ?v8) (List.getElem?_toArray.trans rfl) (by kernel_rfl) (by kernel_rfl) (by kernel_rfl) (fun _ _ _ h => h) (Or.inl ⟨by rfl, ?y8⟩) (by assumption) ?r8
          case y8 => (intro W hSw; (try dsimp only at hSw); go_simp; (try with_reducible rfl))
          case r8 =>
          simp only [Act.put, List.setIfInBounds_toArray, List.set_cons_zero, List.set_cons_succ]
          refine wpAnyH_take (i := 9) (v := ?v9) (List.getElem?_toArray.trans rfl) (by kernel_rfl) (by kernel_rfl) (by kernel_rfl) (fun _ _ _ h => h) (Or.inl ⟨by rfl, ?y9⟩) (by assumption) ?r9
          case y9 => (intro W hSw; (try dsimp only at hSw); go_simp; (try with_reducible rfl))
          case r9 =>
          simp only [Act.put, List.setIfInBounds_toArray, List.set_cons_zero, List.set_cons_succ]
          refine wpAnyH_take (i := 10) (v := ?v10) (List.getElem?_toArray.trans rfl) (by kernel_rfl) (by kernel_rfl) (by kernel_rfl) (fun _ _ _ h => h) (Or.inl ⟨by rfl, ?y10⟩) (by assumption) ?r10
          case y10 => (intro W hSw; (try dsimp only at hSw); go_simp; (try with_reducible rfl))
          case r10 =>
          simp only [Act.put, List.setIfInBounds_toArray, List.set_cons_zero, List.set_cons_succ]
          refine wpAnyH_take (i := 11) (v := ?v11) (List.getElem?_toArray.trans rfl) (by kernel_rfl) (by kernel_rfl) (by kernel_rfl) (fun _ _ _ h => h) (Or.inl ⟨by rfl, ?y11⟩) (by assumption) ?r11
          case y11 => (intro W hSw; (try dsimp only at hSw); go_simp; (try with_reducible rfl))
          case r11 =>
          simp only [Act.put, List.setIfInBounds_toArray, List.set_cons_zero, List.set_cons_succ]
          refine wpAnyH_take (i := 12) (v := ?v12) (List.getElem?_toArray.trans rfl) (by kernel_rfl) (by kernel_rfl) (by kernel_rfl) (fun _ _ _ h => h) (Or.inl ⟨by rfl, ?y12⟩) (by assumption) ?r12
          case y12 => (intro W hSw; (try dsimp only at hSw); go_simp; (try with_reducible rfl))
          case r12 =>
          simp only [Act.put, List.setIfInBounds_toArray, List.set_cons_zero, List.set_cons_succ]
          refine wpAnyH_take (i := 13) (v := ?v13) (List.getElem?_toArray.trans rfl) (by kernel_rfl) (by kernel_rfl) (by kernel_rfl) (fun _ _ _ h => h) (Or.inl ⟨by rfl, ?y13⟩) (by assumption) ?r13
          case y13 => (intro W hSw; (try dsimp only at hSw); go_simp; (try with_reducible rfl))
          case r13 =>
          simp only [Act.put, List.setIfInBounds_toArray, List.set_cons_zero, List.set_cons_succ]
          refine wpAnyH_take (i := 15) (v := ?v15) (List.getElem?_toArray.trans rfl) (by kernel_rfl) (by kernel_rfl) (by kernel_rfl) (fun _ _ _ h => h) (Or.inl ⟨by rfl, ?y15⟩) (by assumption) ?r15
          case y15 => (intro W hSw; (try dsimp only at hSw); go_simp; (try with_reducible rfl))
          case r15 =>
          simp only [Act.put, List.setIfInBounds_toArray, List.set_cons_zero, List.set_cons_succ]
          refine wpAnyH_take (i := 16) (v := ?v16) (List.getElem?_toArray.trans rfl) (by kernel_rfl) (by kernel_rfl) (by kernel_rfl) (fun _ _ _ h => h) (Or.inl ⟨by rfl, ?y16⟩) (by assumption) ?r16
          case y16 => (intro W hSw; (try dsimp only at hSw); go_simp; (try with_reducible rfl))
          case r16 =>
          simp only [Act.put, List.setIfInBounds_toArray, List.set_cons_zero, List.set_cons_succ]
          refine wpAnyH_take (i := 17) (v := ?v17) (List.getElem?_toArray.trans rfl) (by kernel_rfl) (by kernel_rfl) (by kernel_rfl) (fun _ _ _ h => h) (Or.inl ⟨by rfl, ?y17⟩) (by assumption) ?r17
          case y17 => (intro W hSw; (try dsimp only at hSw); go_simp; (try with_reducible rfl))
          case r17 =>
          simp only [Act.put, List.setIfInBounds_toArray, List.set_cons_zero, List.set_cons_succ]
          refine wpAnyH_take (i := 18) (v := ?v18) (List.getElem?_toArray.trans rfl) (by kernel_rfl) (by kernel_rfl) (by kernel_rfl) (fun _ _ _ h => h) (Or.inl ⟨by rfl, ?y18⟩) (by assumption) ?r18
          case y18 => (intro W hSw; (try dsimp only at hSw); go_simp; (try with_reducible rfl))
          case r18 =>
          simp only [Act.put, List.setIfInBounds_toArray, List.set_cons_zero, List.set_cons_succ]
          refine wpAnyH_take (i := 19) (v := ?v19) (List.getElem?_toArray.trans rfl) (by kernel_rfl) (by kernel_rfl) (by kernel_rfl) (fun _ _ _ h => h) (Or.inl ⟨by rfl, ?y19⟩) (by assumption) ?r19
          case y19 => (intro W hSw; (try dsimp only at hSw); go_simp; (try with_reducible rfl))
          case r19 =>
          simp only [Act.put, List.setIfInBounds_toArray, List.set_cons_zero, List.set_cons_succ]
          refine wpAnyH_take (i := 20) (v := ?v20) (List.getElem?_toArray.trans rfl) (by kernel_rfl) (by kernel_rfl) (by kernel_rfl) (fun _ _ _ h => h) (Or.inl ⟨by rfl, ?y20⟩) (by assumption) ?r20
          case y20 => (intro W hSw; (try dsimp only at hSw); go_simp; (try with_reducible rfl))
          case r20 =>
          simp only [Act.put, List.setIfInBounds_toArray, List.set_cons_zero, List.set_cons_succ]
          refine wpAnyH_take (i := 21) (v := ?v21) (List.getElem?_toArray.trans rfl) (by kernel_rfl) (by kernel_rfl) (by kernel_rfl) (fun _ _ _ h => h) (Or.inl ⟨by rfl, ?y21⟩) (by assumption) ?r21
          case y21 => (intro W hSw; (try dsimp only at hSw); go_simp; (try with_reducible rfl))
          case r21 =>
          simp only [Act.put, List.setIfInBounds_toArray, List.set_cons_zero, List.set_cons_succ]
          refine wpAnyH_ready (rs := [14]) (by kernel_rfl) (by simp) ?_
          refine AllReadyH.cons (List.getElem?_toArray.trans rfl) (fun K hK => ?_) AllReadyH.nil
          go_simp
          refine hK.out _ _ hHeld (fun hHeld => ?_)
          clear hK K
          try simp only [Act.put, List.setIfInBounds_toArray, List.set_cons_zero, List.set_cons_succ]
          refine wpAnyH_take (i := 22) (v := ?v22) (List.getElem?_toArray.trans rfl) (by kernel_rfl) (by kernel_rfl) (by kernel_rfl) (fun _ _ _ h => h) (Or.inl ⟨by rfl, ?y22⟩) (by assumption) ?r22
          case y22 => (intro W hSw; (try dsimp only at hSw); go_simp; (try with_reducible rfl))
          case r22 =>
          simp only [Act.put, List.setIfInBounds_toArray, List.set_cons_zero, List.set_cons_succ]
          refine wpAnyH_ready (rs := [23]) (by kernel_rfl) (by simp) ?_
          refine AllReadyH.cons (List.getElem?_toArray.trans rfl) (fun K hK => ?_) AllReadyH.nil
          go_simp
          (with_reducible refine ((c1 _ _ ?_ ?_).out).mono ?_)
          · exact HX.out.2.2.2.2.2.1
          · exact HX.out.2.2.2.2.2.2.1.ints
          rintro e w2 ⟨rfl, ho_w2, hg_w2⟩
          refine hK.out _ _ ⟨cell_grew_keep hg_w2 hlg (by omega) e1, cell_grew_keep hg_w2 hlg (by omega) e2, cell_grew_keep hg_w2 hlt2 (by omega) l2⟩ (fun hHeld => wpAnyH_done (by kernel_rfl) ?_ _)
          clear hK K
          try simp only [Act.put, List.setIfInBounds_toArray, List.set_cons_zero, List.set_cons_succ]
          have g2 : GridO w2 3 30 lo g cap bm (M.set c (subR k (IntKind.i64.wrap (X.tdiv y)) r1 r2)) :=
            (HX.out.2.1.block (w' := wi.drew) (fun _ _ _ => rfl)).setRow hb1 HX.out.2.2.2.1 (by rw [subR_len, hrl1]) (by rw [subR_len]; exact ho_w2) hg_w2.1
          have fc := g2.top.frozen c
          have fx := g2.top.frozen x
          have hcx : ¬ c = x := by omega
          have hxc : ¬ x = c := by omega
          have g3 := g2.swap (i := c) (j := x) hcx hb1 hb2 (by rw [List.getElem?_set, if_pos rfl, if_pos (List.getElem?_eq_some_iff.1 HX.out.2.2.2.1).1]) (by rw [List.getElem?_set, if_neg hcx]; exact HX.out.2.2.2.2.1)
          rw [subR_len, hrl2, List.set_set] at g3
          have hE : (M.set c r2).set x (subR k (IntKind.i64.wrap (X.tdiv y)) r1 r2) = elim k c x (IntKind.i64.wrap (X.tdiv y)) M := by
            unfold elim; rw [rowL_at HX.out.2.2.2.1, rowL_at HX.out.2.2.2.2.1]
          rw [hE] at g3
          have hb2w : Below lo w w2 := below_gr (below_drew HX.out.2.2.1) hg_w2.1 hl1 (show lo ≤ wi.heap.size by omega)
          have HY := Lib.hid (And.intro g3 hb2w)
          clear g2 g3 hb2w hE ho_w2 hg_w2
          go_wp2_with fail
          go_region
          go_wp2_with fail
          have hw : wrap64 (-z) = -z := IntWalk.wrap64_in _ (by have := HX.out.1.sgn; omega)
          rw [hw]
          have hG := HY.out.1.block (w' := World.drew ((w2.setCell ⟨g, c, none⟩ (.slice (some ⟨b2, 0, none⟩) k d2)).setCell ⟨g, x, none⟩ (.slice (some ⟨b1, 0, none⟩) k d1))) (fun _ _ _ => rfl)
          have hX := HX.out.2.2.2.2.2.2.2.1
          have hy := HX.out.2.2.2.2.2.2.2.2
          refine ⟨⟨-z, _, _, rfl, HX.out.1.step hx0 hlt _, hG, below_drew ((HY.out.2.setCell (p := ⟨g, c, none⟩) hll _).setCell (p := ⟨g, x, none⟩) hll _)⟩, ?_⟩
          rw [abAt_is hG (elim_sq HX.out.1.sq hx0 hlt) hlt hc, abAt_is HX.out.2.1 HX.out.1.sq hlt hc]
          have hls := HX.out.1.less hx0 hlt (by rw [hy]; exact hy0)
          rw [hX, hy] at hls
          rw [hy]
          exact hls
    · have e : x = k := by omega
      subst e
      have HX := Lib.hid (And.intro he (And.intro hg hb))
      clear he hg hb
      go_wp2_with fail
      go_ret
      exact ⟨z, M, bm, rfl, HX.out.1, HX.out.2.1, HX.out.2.2⟩
end Go.Proofs.YtoaomjchaihkaaaGreatDoor
namespace Go.Proofs.YtoaomjchaihkaaaGreatDoor
open Go.RowKit
set_option linter.unusedVariables false

theorem small_in {k : Nat} {a : Mx} {e : Int} (h : SmE k e a) (he : e ≤ 1000000) : In64 k a := fun x y hx hy => by have := h x y hx hy; omega
theorem det_in {k : Nat} {a : Mx} (hk : k ≤ 5) (h : SmE k 1000 a) : -9223372036854775808 ≤ det k a ∧ det k a < 9223372036854775808 := by
  have h1 := det_abs (by omega) k a h
  match k, hk with
  | 0, _ => simp [fct, pw] at h1; omega
  | 1, _ => simp [fct, pw] at h1; omega
  | 2, _ => simp [fct, pw] at h1; omega
  | 3, _ => simp [fct, pw] at h1; omega
  | 4, _ => simp [fct, pw] at h1; omega
  | 5, _ => simp [fct, pw] at h1; omega
set_option maxHeartbeats 4000000 in
set_option maxRecDepth 100000 in
theorem iDetG (k c : Nat) (p : Option Addr) (L : List (List Int)) (w : World) (h : GRead w p L) (hs : Sq k L) (hk : k ≤ 5) (hr : In64 k (ent L)) (hd : -9223372036854775808 ≤ det k (ent L) ∧ det k (ent L) < 9223372036854775808) :
    Calls Tryz.prog 69 #[.slice p k c] w fun e w' => e = .returned (.int .i64 (det k (ent L))) ∧ Below w.heap.size w w' := by
  have c1 := fun w h => Lib.hid (iCopied k c p L w h hs hk)
  have H := Lib.hid h
  have HD := Lib.hid (And.intro (Drm.start hs hr) hd)
  obtain ⟨D, hD⟩ : ∃ D, det k (ent L) = D := ⟨_, rfl⟩
  rw [hD] at HD ⊢
  clear h hs hr hd hD
  go_enter Tryz.func69, Tryz.ntmps69
  go_wp2_with (go_at_call 105; (with_reducible refine ((c1 _ ?_).out).mono ?_); (focus (exact H.out; done)); rintro e w2 ⟨g, bs, rfl, hg_w2, hb_w2⟩; have HG := Lib.hid (And.intro hg_w2 hb_w2); clear hg_w2 hb_w2)
  go_loopw [4, 11] (fun s i wr => ∃ (x : Nat) (z : Int) (M : List (List Int)) (bm : List (Nat × Nat)), x ≤ k ∧ i = .int .i64 x ∧ s = .int .i64 z ∧ Drm k x D M z ∧ GridO wr 3 30 w.heap.size g k bm M ∧ Below w.heap.size w wr) (fun _ i _ => k - (intOf i).toNat)
  case atStart => exact ⟨0, 1, L, bs, Nat.zero_le _, rfl, rfl, HD.out.1, HG.out.1, HG.out.2⟩
  case round =>
    clear HG
    rename World => wr
    obtain ⟨x, z, M, bm, hx, rfl, rfl, he, hg, hb⟩ := hrel
    by_cases hlt : x < k
    · have hlt' : (x : Int) < (k : Int) := by omega
      have c2 := fun W h => Lib.hid (iClear w.heap.size g k k x bm M W h he.sq hk he.rng he.tri hlt)
      have HX := Lib.hid (And.intro he (And.intro hg hb))
      clear he hg hb
      go_upto_region 7 with (go_at_call 106; (with_reducible refine ((c2 _ ?_).out).mono ?_); (focus (exact HX.out.2.1; done)); rintro e w3 ⟨s, L', bs', rfl, he_w3, hg_w3, hb_w3⟩)
      obtain ⟨b2, d2, r2, hb2, hr2, e2, ho2, hl2, hn2⟩ := hg_w3.at (i := x) (by rw [he_w3.sq.1]; exact hlt)
      have hrl2 := he_w3.sq.2 r2 (List.mem_of_getElem? hr2)
      rw [hrl2] at e2 ho2
      obtain ⟨y, hy⟩ : ∃ y, ent L' x x = y := ⟨_, rfl⟩
      have l2 : w3.cell? ⟨b2, x, none⟩ = some (.int .i64 y) := ho2.cells (by rw [← hy]; show r2[x]? = some (num (rowL L' x) x); rw [rowL_at hr2]; exact at_num (by rw [hrl2]; exact hlt))
      have hn := HX.out.1.next hlt he_w3
      rw [hy] at hn
      have HY := Lib.hid (And.intro hn (And.intro hg_w3 (HX.out.2.2.trans hb_w3)))
      clear hn hg_w3 hb_w3 he_w3 hy hr2 ho2
      go_wp2_with fail
      simp only [← IntWalk.i64_left]
      exact ⟨⟨x + 1, _, L', bs', by omega, by go_num, rfl, HY.out.1, HY.out.2.1, HY.out.2.2⟩, by simp [intOf]; omega⟩
    · have e : x = k := by omega
      subst e
      have HX := Lib.hid (And.intro (he.done HD.out.2) hb)
      clear he hg hb
      go_wp2_with fail
      go_ret
      exact ⟨ret_int HX.out.1, HX.out.2⟩
theorem iDet (k c : Nat) (p : Option Addr) (L : List (List Int)) (w : World) (h : GRead w p L) (hs : Sq k L) (hk : k ≤ 5) (hm : SmE k 1000 (ent L)) :
    Calls Tryz.prog 69 #[.slice p k c] w fun e w' => e = .returned (.int .i64 (det k (ent L))) ∧ Below w.heap.size w w' :=
  iDetG k c p L w h hs hk (small_in hm (by omega)) (det_in hk hm)
theorem num_setM {r : List Int} {c : Nat} {z : Int} (h : c < r.length) (j : Nat) : num (r.set c z) j = if j = c then z else num r j := by
  unfold num
  rw [List.getElem?_set]
  by_cases e : c = j
  · subst e; rw [if_pos rfl, if_pos h, if_pos rfl]; rfl
  · rw [if_neg e, if_neg (Ne.symm e)]
/-- the first rows have a column's number replaced -/
def putP (k x : Nat) (L : List (List Int)) (c : Nat) (xs : List Int) : List (List Int) := mkL k (fun i j => if i < x then upc (ent L) c (num xs) i j else ent L i j)
theorem putP_zero {k c : Nat} {L : List (List Int)} {xs : List Int} (hs : Sq k L) : putP k 0 L c xs = L := by
  rw [hs.mk]; exact mkL_congr (fun i j hi hj => by rw [if_neg (by omega), ← hs.mk])
theorem putP_done (k c : Nat) (L : List (List Int)) (xs : List Int) : putP k k L c xs = putL k L c xs := mkL_congr (fun i j hi hj => if_pos hi)
theorem putP_set {k x c : Nat} {L : List (List Int)} {xs r : List Int} (hx : x < k) (hc : c < k) (hr : (putP k x L c xs)[x]? = some r) : (putP k x L c xs).set x (r.set c (num xs x)) = putP k (x + 1) L c xs := by
  have hrl : r.length = k := mkL_sq.2 r (List.mem_of_getElem? hr)
  refine Sq.ext (n := k) ⟨by rw [List.length_set]; exact mkL_len, fun y hy => ?_⟩ mkL_sq (fun i j hi hj => ?_)
  · rcases List.mem_or_eq_of_mem_set hy with h | h
    · exact mkL_sq.2 y h
    · rw [h, List.length_set, hrl]
  · rw [ent_set (by show x < (mkL k _).length; rw [mkL_len]; exact hx)]
    show _ = ent (mkL k _) i j
    rw [ent_mkL hi hj]
    by_cases e : i = x
    · subst e
      rw [if_pos rfl, num_setM (by rw [hrl]; exact hc), if_pos (show i < i + 1 by omega)]
      by_cases e2 : j = c
      · subst e2; rw [if_pos rfl, upd_at]
      · rw [if_neg e2, upd_ne e2]
        have : num r j = ent (putP k i L c xs) i j := by unfold ent; rw [rowL_at hr]
        rw [this]
        show ent (mkL k _) i j = _
        rw [ent_mkL hi hj, if_neg (by omega)]
    · rw [if_neg e]
      show ent (mkL k _) i j = _
      rw [ent_mkL hi hj]
      by_cases e3 : i < x
      · rw [if_pos e3, if_pos (by omega)]
      · rw [if_neg e3, if_neg (by omega)]
set_option maxHeartbeats 4000000 in
set_option maxRecDepth 100000 in
theorem iWith (k c d col : Nat) (p q : Option Addr) (L : List (List Int)) (xs : List Int) (w : World) (h : GRead w p L) (hq : Ints w q xs) (hs : Sq k L) (hn : xs.length = k) (hk : k ≤ 5) (hc : col < k) :
    Calls Tryz.prog 107 #[.slice p k c, .int .i64 col, .slice q k d] w (Made w k (putL k L col xs)) := by
  have c1 := fun w h => Lib.hid (iCopied k c p L w h hs hk)
  have H := Lib.hid (And.intro h (And.intro hq (And.intro hs hn)))
  clear h hq hs hn
  go_enter Tryz.func107, Tryz.ntmps107
  go_wp2_with (go_at_call 105; (with_reducible refine ((c1 _ ?_).out).mono ?_); (focus (exact H.out.1; done)); rintro e w2 ⟨g, bs, rfl, hg_w2, hb_w2⟩; have HG := Lib.hid (And.intro hg_w2 hb_w2); clear hg_w2 hb_w2)
  go_loopw [14] (fun i wr => ∃ x : Nat, x ≤ k ∧ i = .int .i64 x ∧ GridO wr 3 30 w.heap.size g k bs (putP k x L col xs) ∧ Below w.heap.size w wr) (fun i _ => k - (intOf i).toNat)
  case atStart => exact ⟨0, Nat.zero_le _, rfl, by rw [putP_zero H.out.2.2.1]; exact HG.out.1, HG.out.2⟩
  case round =>
    clear HG
    rename World => wr
    obtain ⟨x, hx, rfl, hg, hb⟩ := hrel
    have hlg := hg.lt
    by_cases hlt : x < k
    · have hlt' : (x : Int) < (k : Int) := by omega
      have hcol' : (col : Int) < (k : Int) := by omega
      obtain ⟨B, o, z, rfl, hz, hB, e0⟩ := (H.out.2.1.below hb).at (i := x) (by rw [H.out.2.2.2]; exact hlt)
      obtain ⟨b2, d2, r2, hb2, hr2, e2, ho2, hl2, hn2⟩ := hg.at (i := x) (by show x < (mkL k _).length; rw [mkL_len]; exact hlt)
      have hrl2 : r2.length = k := mkL_sq.2 r2 (List.mem_of_getElem? hr2)
      rw [hrl2] at e2 ho2
      have e3 := ho2.cells (i := col) (at_num (by rw [hrl2]; exact hc))
      have f3 := ho2.frozen col
      have hst := putP_set hlt hc hr2
      rw [num_at hz] at hst
      have g3 := hg.setRow hb2 hr2 (r' := r2.set col z) (by rw [List.length_set]) (by rw [List.length_set, hrl2]; exact ho2.set col z (by rw [hrl2]; exact hc)) (gb_oneO _ _ _ _)
      rw [hst] at g3
      have HX := Lib.hid (And.intro g3 (hb.setCell (p := ⟨b2, col, none⟩) hl2 (.int .i64 z)))
      clear hg hb hz hr2 ho2 hst g3
      go_wp2_with fail
      go_roundw
      case rel => exact ⟨x + 1, by omega, by go_num, HX.out.1, HX.out.2⟩
      case measure => simp [intOf]; omega
    · have e : x = k := by omega
      subst e
      rw [putP_done] at hg
      have HX := Lib.hid (And.intro hg hb)
      clear hg hb
      go_wp2_with fail
      go_ret
      exact ⟨g, bs, rfl, HX.out.1, HX.out.2⟩
end Go.Proofs.YtoaomjchaihkaaaGreatDoor
namespace Go.Proofs.YtoaomjchaihkaaaGreatDoor
open Go.RowKit
set_option linter.unusedVariables false

/-- what MatTimes answers to two matrices that are valid -/
def TimesI (w : World) (k : Nat) (v : Bool) (f : Mx) (e : Ending) (w' : World) : Prop :=
  (v = true → ∃ g cap bs, e = .returned (.tuple #[.slice (some ⟨g, 0, none⟩) k cap, .bool true]) ∧ GridO w' 3 30 w.heap.size g cap bs (mkL k f)) ∧
  (v = false → ∃ q d, e = .returned (.tuple #[.slice q 0 d, .bool false])) ∧ Below w.heap.size w w'
set_option maxHeartbeats 4000000 in
set_option maxRecDepth 100000 in
theorem iColDets (k c d : Nat) (p q : Option Addr) (L : List (List Int)) (xs : List Int) (w : World) (h : GRead w p L) (hq : Ints w q xs) (hs : Sq k L) (hn : xs.length = k) (hk5 : k ≤ 5)
    (hr : ∀ j, j < k → In64 k (upc (ent L) j (num xs))) (hd : ∀ j, j < k → -9223372036854775808 ≤ det k (upc (ent L) j (num xs)) ∧ det k (upc (ent L) j (num xs)) < 9223372036854775808) :
    Calls Tryz.prog 70 #[.slice p k c, .slice q k d] w fun e w' => e = .returned (.slice (some ⟨w.heap.size, 0, none⟩) k k) ∧ Own w' w.heap.size 3 1 k k (slL k L xs) ∧ Below w.heap.size w w' := by
  have c4 := fun j w h hq hj => Lib.hid (iWith k c d j p q L xs w h hq hs hn hk5 hj)
  have hpd : ∀ j, det k (ent (putL k L j xs)) = det k (upc (ent L) j (num xs)) := fun j => det_mkL _
  have hpr : ∀ j, j < k → In64 k (ent (putL k L j xs)) := fun j hj x y hx hy => by
    have := hr j hj x y hx hy
    unfold putL; rw [ent_mkL hx hy]; exact this
  have c5 := fun j hj g w h => Lib.hid (by have := iDetG k k (some ⟨g, 0, none⟩) (putL k L j xs) w h mkL_sq hk5 (hpr j hj) (by rw [hpd]; exact hd j hj); rw [hpd] at this; exact this)
  have hmk := fun w => made_ints w k (by omega)
  have H := Lib.hid (And.intro h hq)
  clear h hq hs hn hpd hpr hr hd
  go_enter Tryz.func70, Tryz.ntmps70
  go_wp2_with fail
  clear hmk
  have H0 : Hid (Own (w.alloc (.cells (madeCells (Array.replicate 1 (.int .i64 0)) (k * 1)) 3)) w.heap.size 3 1 k k (prow k 0 (fun j => det k (upc (ent L) j (num xs))))) := Lib.hid (by
    have ho := Own.made w 3 k 1 (by decide) (by unfold maxLen; omega)
    rw [prow_zero]; rw [Nat.mul_one] at ho ⊢; exact ho)
  go_loopw [12] (fun i wr => ∃ x : Nat, x ≤ k ∧ i = .int .i64 x ∧ Own wr w.heap.size 3 1 k k (prow k x (fun j => det k (upc (ent L) j (num xs)))) ∧ Below w.heap.size w wr) (fun i _ => k - (intOf i).toNat)
  case atStart => exact ⟨0, Nat.zero_le _, rfl, by simpa using H0.out, (Below.refl _ _).alloc (Nat.le_refl _) _⟩
  case round =>
    clear H0
    rename World => wr
    obtain ⟨x, hx, rfl, ho, hb⟩ := hrel
    have hlo := ho.lt
    have hbs := hb.size
    by_cases hlt : x < k
    · have hlt' : (x : Int) < (k : Int) := by omega
      obtain ⟨z0, hz0⟩ : ∃ z, (prow k x (fun j => det k (upc (ent L) j (num xs))))[x]? = some z := ⟨_, List.getElem?_eq_getElem (by rw [prow_len _ hx]; exact hlt)⟩
      have r0 := ho.cells hz0
      have f0 := ho.frozen x
      have c6 := fun w h hq => Lib.hid (c4 x w h hq hlt).out
      have c7 := fun g w h => Lib.hid (c5 x hlt g w h).out
      have HX := Lib.hid (And.intro ho (And.intro hb (And.intro (H.out.1.below hb) (H.out.2.below hb))))
      clear ho hb hz0 c4 c5
      go_wp2_with (first
        | (go_at_call 107; (with_reducible refine ((c6 _ ?_ ?_).out).mono ?_); (focus (exact HX.out.2.2.1; done)); (focus (exact HX.out.2.2.2; done)); rintro e w3 ⟨g, bs, rfl, hg_w3, hb_w3⟩; have HG := Lib.hid (And.intro hg_w3 hb_w3); have r1 := cell_below_keep hb_w3 r0; have f1 := frozen_below_keep hb_w3 r0 f0; clear hg_w3)
        | (go_at_call 69; (with_reducible refine ((c7 _ _ ?_).out).mono ?_); (focus (exact HG.out.1.read; done)); rintro e w4 ⟨rfl, hb_w4⟩; have r2 := cell_below_keep hb_w4 r1; have f2 := frozen_below_keep hb_w4 r1 f1))
      have hB : Below wr.heap.size wr w4 := hb_w3.trans (hb_w4.mono hb_w3.size)
      have hst := (HX.out.1.below hB).set x (det k (upc (ent L) x (num xs))) (by rw [prow_len _ hx]; exact hlt)
      rw [prow_set (fun j => det k (upc (ent L) j (num xs))) hlt] at hst
      go_roundw
      case rel => exact ⟨x + 1, by omega, by go_num, hst, (HX.out.2.1.trans (hB.mono hbs)).setCell (p := ⟨w.heap.size, x, none⟩) (Nat.le_refl _) _⟩
      case measure => simp [intOf]; omega
    · have e : x = k := by omega
      subst e
      rw [prow_done] at ho
      have HX := Lib.hid (And.intro ho hb)
      clear ho hb
      go_wp2_with fail
      go_ret
      exact ⟨rfl, HX.out.1, HX.out.2⟩
end Go.Proofs.YtoaomjchaihkaaaGreatDoor
