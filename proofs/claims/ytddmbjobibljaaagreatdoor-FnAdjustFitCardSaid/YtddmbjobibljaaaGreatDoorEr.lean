/-
  slices.Insert of one quotient ahead of a list of quotients that has no room: the walk over the library's text.
-/
import Derived.Test.YtddmbjobibljaaaGreatDoorEq
import Derived.Deep.RegionLaw
namespace Go.Proofs.YtddmbjobibljaaaGreatDoor
open Go.RowKit
set_option linter.unusedVariables false

theorem step_copy {P : Program} {ops : Array Oper} {o : Oper} {a : Act} {w : World} {K : Act → World → Prop} {Q : Exit → Act → World → Prop} {E : Prop}
    (hg : o.guard = none) (d x : Operand) (dT sT : TypeId) (hop : o.op = Op.call { callee := Callee.builtin Builtin.copy, args := #[d, x], argTypes := #[dT, sT] })
    (v u : Value) (hd : a.eval d = v) (hx : a.eval x = u) {v' : Value} {w' : World} (hr : (Builtin.copy_ #[dT, sT] o.type #[v, u]).run P w = .ok v' w') (hK : K (a.put o.dst v') w') :
    if Region.wanted o (yielded ops a.tmps) = true then Oper.wp P o a w K Q else E := by
  have hw : Region.wanted o (yielded ops a.tmps) = true := by simp [Region.wanted, hg]
  rw [if_pos hw]
  unfold Oper.wp
  simp [execOp, hop, resolve, invoke, builtin, hd, hx, hr, Result.andThen]
  exact hK
/-- zeros appended to no elements of a list that has not the room -/
theorem wp_append_zerosB {P : Program} (w : World) {ops : Array Oper} {rest : List Oper} {o : Oper} {a : Act} {Q : Exit → Act → World → Prop} (hgd : o.guard = none) (s x : Operand) (t tn : TypeId)
    (ho : o.op = .call { callee := .builtin .append, args := #[s, x], argTypes := #[t, tn] })
    (e : TypeId) (bytes : Nat) (ht : P.underlying t = some (.slice e)) (htn : P.underlying tn = some (.int .i64)) (hinfo : (P.info? e).map (fun i => (i.zero, i.size, i.bytes)) = some (some (.agg #[.int .i64 0, .int .i64 0]), 2, bytes)) (hby : bytes ≤ 32)
    (ad : Addr) (c : Nat) (hs : a.eval s = .slice (some ad) 0 c) (n : Nat) (hn : 0 < n) (hc : c < n) (hn4 : n ≤ 4194304) (hx : a.eval x = .int .i64 n)
    (h : ∀ cap' w', n ≤ cap' → Own w' w.heap.size e 2 n cap' (List.replicate (n * 2) 0) → Below w.heap.size w w' → wpList P ops Q rest (a.put o.dst (.slice (some ⟨w.heap.size, 0, none⟩) n cap')) w') :
    wpList P ops Q (o :: rest) a w := by
  obtain ⟨i, hi, hzz⟩ := Option.map_eq_some_iff.1 hinfo
  simp only [Prod.mk.injEq] at hzz
  obtain ⟨hz, hs', hb⟩ := hzz
  have hbn : n * bytes ≤ 4194304 * 32 := Nat.mul_le_mul hn4 hby
  have h0 := Lib.run_append_grow_zeros (P := P) w t tn o.type e i _ .i64 .i64 ht htn hi hz (some ad) 0 c [] (by simp [Builtin.firstCells, loadCells, loadCellsFrom]) n hn (by omega) (by omega) (by omega) (by rw [hb]; omega) (by rw [hb, Nat.zero_add]; exact growslice_fits (by omega) (by omega))
  rw [Nat.zero_add] at h0
  refine Lib.wpList_append_run w hgd s x t tn ho _ _ hs hx _ _ h0 ?_
  have hcap := grownCap_ge w n c e
  refine h _ _ hcap ?_ ((below_drew (Below.refl _ _)).alloc (Nat.le_refl _) _)
  refine .of (cur := ([] : List Value).toArray ++ Builtin.zeroCells (Value.agg #[.int .i64 0, .int .i64 0]).cells n ++ Builtin.zeroCells (Value.agg #[.int .i64 0, .int .i64 0]).cells (grownCap w n c e - n)) ?_ hcap (grownCap_le_maxLen w n c e (by unfold maxLen; omega)) ?_ ?_ (by simp)
  · have := Deep.blk_alloc_new w.drew (.cells (([] : List Value).toArray ++ Builtin.zeroCells (Value.agg #[.int .i64 0, .int .i64 0]).cells n ++ Builtin.zeroCells (Value.agg #[.int .i64 0, .int .i64 0]).cells (grownCap w n c e - n)) e)
    exact this
  · rw [zero2, zero2]; simp; omega
  · rw [zero2, zero2]
    simp [ivs]
theorem size_quo : (Tryz.prog.info? 36).map (·.size) = some 2 := by kernel_rfl
theorem two_atQ {W : World} {b : Nat} {x y : Int} (h0 : W.cell? ⟨b, 0, none⟩ = some (.int .i64 x)) (h1 : W.cell? ⟨b, 1, none⟩ = some (.int .i64 y)) : ∀ (j : Nat) (z : Int), [x, y][j]? = some z → W.cell? ((⟨b, 0, none⟩ : Addr).add j) = some (.int .i64 z) := by
  intro j z h
  rw [add_flat]
  match j, h with
  | 0, h => simp at h; subst h; exact h0
  | 1, h => simp at h; subst h; exact h1
  | j + 2, h => simp at h
theorem own_atQ {W : World} {g n cap : Nat} {T : TypeId} {L : List Int} (h : Own W g T 2 n cap L) : ∀ (j : Nat) (z : Int), L[j]? = some z → W.cell? ((⟨g, 0, none⟩ : Addr).add j) = some (.int .i64 z) := fun j z hj => by
  rw [add_flat]
  simpa using h.cells hj
set_option maxHeartbeats 4000000 in
set_option maxRecDepth 100000 in
theorem iInsert (g n vb vc : Nat) (L : List Int) (w : World) (ho : Own w g 36 2 n n L) (hn1 : 1 ≤ n) (hn5 : n ≤ 5) (v0 : w.cell? ⟨vb, 0, none⟩ = some (.int .i64 0)) (v1 : w.cell? ⟨vb, 1, none⟩ = some (.int .i64 1)) :
    Calls Tryz.prog 28 #[.slice (some ⟨g, 0, none⟩) n n, .int .i64 0, .slice (some ⟨vb, 0, none⟩) 1 vc] w fun e w' => ∃ cap, e = .returned (.slice (some ⟨w.heap.size, 0, none⟩) (n + 1) cap) ∧ Own w' w.heap.size 36 2 (n + 1) cap ([0, 1] ++ L) ∧ Below w.heap.size w w' := by
  have hl := ho.len
  have hgl := ho.lt
  have hvl := World.block_lt_of_cell? w _ v0
  have HO := Lib.hid ho
  have hn0 : ¬ (0 : Int) = (n : Int) := by omega
  have hw1 : IntKind.i64.wrap ((n : Int) + 1) = (n : Int) + 1 := by rw [IntKind.wrap_i64]; omega
  have hgt : (n : Int) < (n : Int) + 1 := by omega
  clear ho
  go_enter Tryz.func28, Tryz.ntmps28
  go_upto_region 10 with (at_builtin; refine wp_append_zerosB _ rfl _ _ 26 3 rfl 36 16 Tryz.underlying26 Tryz.underlying3 info_quo (by decide) ⟨g, 0, none⟩ n rfl (n + 1) (by omega) (by omega) (by omega) (by simp [Act.eval]) ?_; intro cap' w1 hcap hown hb_w1; have HN := Lib.hid (And.intro hown hb_w1); have hs_w1 := hb_w1.size; clear hown hb_w1)
  have hcp : ∀ ty, (Builtin.copy_ #[26, 26] ty #[.slice (some ⟨w.heap.size, 0, none⟩) (n + 1) cap', .slice (some ⟨vb, 0, none⟩) 1 vc]).run Tryz.prog w1 = .ok (goInt 1) (w1.setCells w.heap.size 0 (ivs [0, 1])) := fun ty =>
    own_copy (k := 1) (zs := [0, 1]) HN.out.1 Tryz.underlying26 size_quo (Nat.min_eq_left (by omega)) rfl (by simp only [List.length_replicate, List.length_cons, List.length_nil]; omega) (two_atQ (cell_below_keep HN.out.2 v0) (cell_below_keep HN.out.2 v1))
  have ho2 := HN.out.1.setCells [0, 1] 0 (by simp only [List.length_replicate, List.length_cons, List.length_nil]; omega)
  have hb2 : Below w.heap.size w (w1.setCells w.heap.size 0 (ivs [0, 1])) := belowSetCells (Nat.le_refl _) _ _ HN.out.2
  obtain ⟨W2, hW2⟩ : ∃ W2, W2 = w1.setCells w.heap.size 0 (ivs [0, 1]) := ⟨_, rfl⟩
  rw [← hW2] at hcp ho2 hb2
  have H2 := Lib.hid (And.intro ho2 hb2)
  clear ho2 hb2 hW2
  go_upto_region 11 with fail
  have hoG : Own W2 g 36 2 n n L := HO.out.below H2.out.2
  have hwr : IntKind.i64.wrap 1 = 1 := by decide
  have hn1' : (1 : Int) ≤ (n : Int) + 1 := by omega
  have hc1 : ¬ cap' = 1 := by omega
  have hc2 : (1 : Int) ≤ (cap' : Int) := by omega
  have hnn : n + 1 - 1 = n := by omega
  have hcq : ∀ ty dc sc, (Builtin.copy_ #[26, 26] ty #[.slice (some ⟨w.heap.size, 2, none⟩) (n + 1 - 1) dc, .slice (some ⟨g, 0, none⟩) n sc]).run Tryz.prog W2.drew = .ok (goInt n) (W2.drew.setCells w.heap.size 2 (ivs L)) := fun ty dc sc =>
    own_copy (k := n) (zs := L) (show Own W2.drew _ _ _ _ _ _ from H2.out.1) Tryz.underlying26 size_quo (by rw [hnn]; exact Nat.min_self n) hl (by rw [setL_len]; simp; omega) (own_atQ (show Own W2.drew _ _ _ _ _ _ from hoG))
  have ho3 := (show Own W2.drew _ _ _ _ _ _ from H2.out.1).setCells L 2 (by rw [setL_len]; simp; omega)
  have hb3 : Below w.heap.size w (W2.drew.setCells w.heap.size 2 (ivs L)) := belowSetCells (Nat.le_refl _) _ _ (below_drew H2.out.2)
  have hLL : setL (setL (List.replicate ((n + 1) * 2) 0) 0 [0, 1]) 2 L = 0 :: 1 :: L := by
    have e : List.replicate ((n + 1) * 2) (0 : Int) = 0 :: 0 :: List.replicate (n * 2) 0 := by
      rw [show (n + 1) * 2 = n * 2 + 1 + 1 by omega]; rfl
    rw [e]
    show setL ([0, 1] ++ List.replicate (n * 2) 0) [(0 : Int), 1].length L = _
    rw [setL_app L [0, 1] _ (by simp [hl])]; rfl
  rw [hLL] at ho3
  obtain ⟨W3, hW3⟩ : ∃ W3, W3 = W2.drew.setCells w.heap.size 2 (ivs L) := ⟨_, rfl⟩
  rw [← hW3] at hcq ho3 hb3
  have H3 := Lib.hid (And.intro ho3 hb3)
  clear ho3 hb3 hW3 hLL hcp
  go_region_law (refine step_copy rfl _ _ 26 26 rfl (.slice (some ⟨w.heap.size, 2, none⟩) (n + 1 - 1) (cap' - 1)) (.slice (some ⟨g, 0, none⟩) n n) (by simp [Act.eval, Act.put]) (by simp [Act.eval, Act.put]) (hcq 3 (cap' - 1) n) ?_)
  go_wp2
  go_ret
  exact ⟨cap', rfl, H3.out.1, H3.out.2⟩
end Go.Proofs.YtddmbjobibljaaaGreatDoor
