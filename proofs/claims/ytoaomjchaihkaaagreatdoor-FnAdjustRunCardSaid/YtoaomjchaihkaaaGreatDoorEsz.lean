/-
  slices.Insert of one quotient ahead of a list of quotients that has no room.
  slices.Insert of one quotient ahead of a list of quotients that has no room: the walk over the library's text.
  The program's quotients of the determinants of replaced columns.
-/
import Derived.Test.YtoaomjchaihkaaaGreatDoorEi
import Derived.Test.YtoaomjchaihkaaaGreatDoorEfz
import Derived.Lib.AppendZerosOnto
import Derived.Laws.IdiomCopy
import Derived.Deep.RegionLaw
import Derived.Test.YtoaomjchaihkaaaGreatDoorQz
namespace Go.Proofs.YtoaomjchaihkaaaGreatDoor
open Go.RowKit
set_option linter.unusedVariables false

theorem zero2 (k : Nat) : Builtin.zeroCells (Value.agg #[.int .i64 0, .int .i64 0]).cells k = Array.replicate (k * 2) (Value.int .i64 0) := by
  apply Array.ext
  · simp [Builtin.zeroCells, Value.cells]
  · intro i h1 h2
    have : i % 2 = 0 ∨ i % 2 = 1 := by omega
    rcases this with h | h <;> simp [Builtin.zeroCells, Value.cells, h]
/-- numbers laid over numbers, from the o-th one on -/
def setL : List Int → Nat → List Int → List Int
  | L, _, [] => L
  | L, o, z :: zs => setL (L.set o z) (o + 1) zs
theorem setL_len : ∀ (zs L : List Int) (o : Nat), (setL L o zs).length = L.length
  | [], _, _ => rfl
  | z :: zs, L, o => by unfold setL; rw [setL_len zs]; simp
theorem setL_app : ∀ (zs A B : List Int), B.length = zs.length → setL (A ++ B) A.length zs = A ++ zs
  | [], A, B, h => by
    have : B = [] := List.eq_nil_of_length_eq_zero (by simpa using h)
    subst this; rfl
  | z :: zs, A, B, h => by
    obtain ⟨b, B, rfl⟩ : ∃ b C, B = b :: C := by
      cases B with
      | nil => simp at h
      | cons b C => exact ⟨b, C, rfl⟩
    unfold setL
    have e : (A ++ b :: B).set A.length z = (A ++ [z]) ++ B := by
      rw [List.set_append_right _ _ (Nat.le_refl _), Nat.sub_self]; simp
    have e2 : A.length + 1 = (A ++ [z]).length := by simp
    rw [e, e2, setL_app zs (A ++ [z]) B (by simpa using h)]
    simp
theorem Own.setCells : ∀ (zs : List Int) (o : Nat) {w : World} {g : Nat} {T : TypeId} {sz n cap : Nat} {L : List Int}, Own w g T sz n cap L → o + zs.length ≤ L.length → Own (w.setCells g o (ivs zs)) g T sz n cap (setL L o zs)
  | [], _, _, _, _, _, _, _, _, h, _ => h
  | z :: zs, o, w, g, T, sz, n, cap, L, h, hl => by
    simp only [List.length_cons] at hl
    exact Own.setCells zs (o + 1) (h.set o z (by omega)) (by simp; omega)
theorem belowSetCells {a : World} {B g : Nat} (hB : B ≤ g) : ∀ (vs : List Value) (o : Nat) {w : World}, Below B a w → Below B a (w.setCells g o vs)
  | [], _, _, h => h
  | v :: vs, o, w, h => belowSetCells hB vs (o + 1) (h.setCell (p := ⟨g, o, none⟩) hB v)
/-- copy, of elements of several cells -/
theorem run_copy_wide {P : Program} (w : World) (dT sT ty elem : TypeId) (sz b o dLen dCap k : Nat) (a : Addr) (sLen sCap : Nat) (cs : List Value)
    (hu : P.underlying dT = some (.slice elem)) (hs : (P.info? elem).map (·.size) = some sz) (hk : Nat.min sLen dLen = k) (hn : cs.length = k * sz)
    (hsrc : ∀ j v, cs[j]? = some v → w.cell? (a.add j) = some v) (hc : ∀ j, j < cs.length → (w.cell? ⟨b, o + j, none⟩).isSome = true) (hf : ∀ j, j < cs.length → w.frozen? ⟨b, o + j, none⟩ = false) (h1 : ∀ v ∈ cs, v.oneCell' = true) :
    (Builtin.copy_ #[dT, sT] ty #[.slice (some ⟨b, o, none⟩) dLen dCap, .slice (some a) sLen sCap]).run P w = .ok (goInt k) (w.setCells b o cs) := by
  have hl := run_loadCells_list (P := P) w a cs hsrc
  have hst := run_storeCells_cells (P := P) b o cs 0 w (by simpa using hc) (by simpa using hf) h1
  cases hq : P.info? elem with
  | none => simp [hq] at hs
  | some i =>
    have hi : i.size = sz := by simpa [hq] using hs
    rw [hn] at hl
    simp [Builtin.copy_, run_underlying hu, Builtin.lenOf, Builtin.firstCells, sizeOf, typeInfo, hq, hi, hk, hl, hst]
theorem ivs_len (zs : List Int) : (ivs zs).length = zs.length := by simp [ivs]
theorem ivs_one {zs : List Int} : ∀ v ∈ ivs zs, v.oneCell' = true := by
  intro v hv
  rw [ivs, List.mem_map] at hv
  obtain ⟨z, _, rfl⟩ := hv
  rfl
theorem own_copy {P : Program} {w : World} {dT sT ty elem : TypeId} {g sz n cap o dLen dCap k : Nat} {a : Addr} {sLen sCap : Nat} {L zs : List Int} (h : Own w g elem sz n cap L)
    (hu : P.underlying dT = some (.slice elem)) (hs : (P.info? elem).map (·.size) = some sz) (hk : Nat.min sLen dLen = k) (hn : zs.length = k * sz) (ho : o + zs.length ≤ L.length)
    (hsrc : ∀ (j : Nat) (z : Int), zs[j]? = some z → w.cell? (a.add j) = some (.int .i64 z)) :
    (Builtin.copy_ #[dT, sT] ty #[.slice (some ⟨g, o, none⟩) dLen dCap, .slice (some a) sLen sCap]).run P w = .ok (goInt k) (w.setCells g o (ivs zs)) := by
  refine run_copy_wide w dT sT ty elem sz g o dLen dCap k a sLen sCap (ivs zs) hu hs hk (by rw [ivs_len]; exact hn) (fun j v hj => ?_) (fun j hj => ?_) (fun j _ => h.frozen _) ivs_one
  · rw [ivs, List.getElem?_map] at hj
    obtain ⟨z, hz, rfl⟩ := Option.map_eq_some_iff.1 hj
    exact hsrc j z hz
  · rw [ivs_len] at hj
    rw [h.cells (i := o + j) (z := L[o + j]'(by omega)) (List.getElem?_eq_getElem (by omega))]; rfl
theorem wpList_copy_runQ {P : Program} (w : World) {ops : Array Oper} {rest : List Oper} {o : Oper} {a : Act} {Q : Exit → Act → World → Prop} (hgd : o.guard = none) (d s : Operand) (t t' : TypeId)
    (ho : o.op = .call { callee := .builtin .copy, args := #[d, s], argTypes := #[t, t'] }) (v u : Value) (hd : a.eval d = v) (hs : a.eval s = u) {v' : Value} {w' : World}
    (hr : (Builtin.copy_ #[t, t'] o.type #[v, u]).run P w = .ok v' w') (h : wpList P ops Q rest (a.put o.dst v') w') : wpList P ops Q (o :: rest) a w :=
  wpList_plain hgd fun _ hK => by
    unfold Oper.wp execOp
    simp only [ho, resolve, invoke, builtin, Sem.run_bind, Sem.run_pure, Result.andThen_ok, List.map_toArray, List.map_cons, List.map_nil, hd, hs, hr]
    exact hK _ _ h
end Go.Proofs.YtoaomjchaihkaaaGreatDoor
namespace Go.Proofs.YtoaomjchaihkaaaGreatDoor
open Go.RowKit
set_option linter.unusedVariables false

theorem step_copy {P : Program} {ops : Array Oper} {o : Oper} {a : Act} {w : World} {K : Act → World → Prop} {Q : Exit → Act → World → Prop} {E : Prop}
    (hg : o.guard = none) (d x : Operand) (dT sT : TypeId) (hop : o.op = Op.call { callee := Callee.builtin Builtin.copy, args := #[d, x], argTypes := #[dT, sT] })
    (v u : Value) (hd : a.eval d = v) (hx : a.eval x = u) {v' : Value} {w' : World} (hr : (Builtin.copy_ #[dT, sT] o.type #[v, u]).run P w = .ok v' w') (hK : K (a.put o.dst v') w') :
    if Region.wanted o (yielded ops a.tmps) = true then Oper.wp P o a w K Q else E := by
  have hw : Region.wanted o (yielded ops a.tmps) = true := by simp [Region.wanted, hg]
  rw [if_pos hw]
  unfold Oper.wp
  simp [execOp, hop, resolve, invoke, builtin, hd, hx, hr, Result.andThen]
  exact hK
/-- zeros appended to no elements of a list that has not the room -/
theorem wp_append_zerosB {P : Program} (w : World) {ops : Array Oper} {rest : List Oper} {o : Oper} {a : Act} {Q : Exit → Act → World → Prop} (hgd : o.guard = none) (s x : Operand) (t tn : TypeId)
    (ho : o.op = .call { callee := .builtin .append, args := #[s, x], argTypes := #[t, tn] })
    (e : TypeId) (bytes : Nat) (ht : P.underlying t = some (.slice e)) (htn : P.underlying tn = some (.int .i64)) (hinfo : (P.info? e).map (fun i => (i.zero, i.size, i.bytes)) = some (some (.agg #[.int .i64 0, .int .i64 0]), 2, bytes)) (hby : bytes ≤ 32)
    (ad : Addr) (c : Nat) (hs : a.eval s = .slice (some ad) 0 c) (n : Nat) (hn : 0 < n) (hc : c < n) (hn4 : n ≤ 4194304) (hx : a.eval x = .int .i64 n)
    (h : ∀ cap' w', n ≤ cap' → Own w' w.heap.size e 2 n cap' (List.replicate (n * 2) 0) → Below w.heap.size w w' → wpList P ops Q rest (a.put o.dst (.slice (some ⟨w.heap.size, 0, none⟩) n cap')) w') :
    wpList P ops Q (o :: rest) a w := by
  obtain ⟨i, hi, hzz⟩ := Option.map_eq_some_iff.1 hinfo
  simp only [Prod.mk.injEq] at hzz
  obtain ⟨hz, hs', hb⟩ := hzz
  have hbn : n * bytes ≤ 4194304 * 32 := Nat.mul_le_mul hn4 hby
  have h0 := Lib.run_append_grow_zeros (P := P) w t tn o.type e i _ .i64 .i64 ht htn hi hz (some ad) 0 c [] (by simp [Builtin.firstCells, loadCells, loadCellsFrom]) n hn (by omega) (by omega) (by omega) (by rw [hb]; omega) (by rw [hb, Nat.zero_add]; exact growslice_fits (by omega) (by omega))
  rw [Nat.zero_add] at h0
  refine Lib.wpList_append_run w hgd s x t tn ho _ _ hs hx _ _ h0 ?_
  have hcap := grownCap_ge w n c e
  refine h _ _ hcap ?_ ((below_drew (Below.refl _ _)).alloc (Nat.le_refl _) _)
  refine .of (cur := ([] : List Value).toArray ++ Builtin.zeroCells (Value.agg #[.int .i64 0, .int .i64 0]).cells n ++ Builtin.zeroCells (Value.agg #[.int .i64 0, .int .i64 0]).cells (grownCap w n c e - n)) ?_ hcap (grownCap_le_maxLen w n c e (by unfold maxLen; omega)) ?_ ?_ (by simp)
  · have := Deep.blk_alloc_new w.drew (.cells (([] : List Value).toArray ++ Builtin.zeroCells (Value.agg #[.int .i64 0, .int .i64 0]).cells n ++ Builtin.zeroCells (Value.agg #[.int .i64 0, .int .i64 0]).cells (grownCap w n c e - n)) e)
    exact this
  · rw [zero2, zero2]; simp; omega
  · rw [zero2, zero2]
    simp [ivs]
theorem size_quo : (Tryz.prog.info? 36).map (·.size) = some 2 := by kernel_rfl
theorem two_atQ {W : World} {b : Nat} {x y : Int} (h0 : W.cell? ⟨b, 0, none⟩ = some (.int .i64 x)) (h1 : W.cell? ⟨b, 1, none⟩ = some (.int .i64 y)) : ∀ (j : Nat) (z : Int), [x, y][j]? = some z → W.cell? ((⟨b, 0, none⟩ : Addr).add j) = some (.int .i64 z) := by
  intro j z h
  rw [add_flat]
  match j, h with
  | 0, h => simp at h; subst h; exact h0
  | 1, h => simp at h; subst h; exact h1
  | j + 2, h => simp at h
theorem own_atQ {W : World} {g n cap : Nat} {T : TypeId} {L : List Int} (h : Own W g T 2 n cap L) : ∀ (j : Nat) (z : Int), L[j]? = some z → W.cell? ((⟨g, 0, none⟩ : Addr).add j) = some (.int .i64 z) := fun j z hj => by
  rw [add_flat]
  simpa using h.cells hj
set_option maxHeartbeats 4000000 in
set_option maxRecDepth 100000 in
theorem iInsert (g n vb vc : Nat) (L : List Int) (w : World) (ho : Own w g 36 2 n n L) (hn1 : 1 ≤ n) (hn5 : n ≤ 5) (v0 : w.cell? ⟨vb, 0, none⟩ = some (.int .i64 0)) (v1 : w.cell? ⟨vb, 1, none⟩ = some (.int .i64 1)) :
    Calls Tryz.prog 36 #[.slice (some ⟨g, 0, none⟩) n n, .int .i64 0, .slice (some ⟨vb, 0, none⟩) 1 vc] w fun e w' => ∃ cap, e = .returned (.slice (some ⟨w.heap.size, 0, none⟩) (n + 1) cap) ∧ Own w' w.heap.size 36 2 (n + 1) cap ([0, 1] ++ L) ∧ Below w.heap.size w w' := by
  have hl := ho.len
  have hgl := ho.lt
  have hvl := World.block_lt_of_cell? w _ v0
  have HO := Lib.hid ho
  have hn0 : ¬ (0 : Int) = (n : Int) := by omega
  have hw1 : IntKind.i64.wrap ((n : Int) + 1) = (n : Int) + 1 := by rw [IntKind.wrap_i64]; omega
  have hgt : (n : Int) < (n : Int) + 1 := by omega
  clear ho
  go_enter Tryz.func36, Tryz.ntmps36
  go_upto_region 10 with (at_builtin; refine wp_append_zerosB _ rfl _ _ 26 3 rfl 36 16 Tryz.underlying26 Tryz.underlying3 info_quo (by decide) ⟨g, 0, none⟩ n rfl (n + 1) (by omega) (by omega) (by omega) (by simp [Act.eval]) ?_; intro cap' w1 hcap hown hb_w1; have HN := Lib.hid (And.intro hown hb_w1); have hs_w1 := hb_w1.size; clear hown hb_w1)
  have hcp : ∀ ty, (Builtin.copy_ #[26, 26] ty #[.slice (some ⟨w.heap.size, 0, none⟩) (n + 1) cap', .slice (some ⟨vb, 0, none⟩) 1 vc]).run Tryz.prog w1 = .ok (goInt 1) (w1.setCells w.heap.size 0 (ivs [0, 1])) := fun ty =>
    own_copy (k := 1) (zs := [0, 1]) HN.out.1 Tryz.underlying26 size_quo (Nat.min_eq_left (by omega)) rfl (by simp only [List.length_replicate, List.length_cons, List.length_nil]; omega) (two_atQ (cell_below_keep HN.out.2 v0) (cell_below_keep HN.out.2 v1))
  have ho2 := HN.out.1.setCells [0, 1] 0 (by simp only [List.length_replicate, List.length_cons, List.length_nil]; omega)
  have hb2 : Below w.heap.size w (w1.setCells w.heap.size 0 (ivs [0, 1])) := belowSetCells (Nat.le_refl _) _ _ HN.out.2
  obtain ⟨W2, hW2⟩ : ∃ W2, W2 = w1.setCells w.heap.size 0 (ivs [0, 1]) := ⟨_, rfl⟩
  rw [← hW2] at hcp ho2 hb2
  have H2 := Lib.hid (And.intro ho2 hb2)
  clear ho2 hb2 hW2
  go_upto_region 11 with fail
  have hoG : Own W2 g 36 2 n n L := HO.out.below H2.out.2
  have hwr : IntKind.i64.wrap 1 = 1 := by decide
  have hn1' : (1 : Int) ≤ (n : Int) + 1 := by omega
  have hc1 : ¬ cap' = 1 := by omega
  have hc2 : (1 : Int) ≤ (cap' : Int) := by omega
  have hnn : n + 1 - 1 = n := by omega
  have hcq : ∀ ty dc sc, (Builtin.copy_ #[26, 26] ty #[.slice (some ⟨w.heap.size, 2, none⟩) (n + 1 - 1) dc, .slice (some ⟨g, 0, none⟩) n sc]).run Tryz.prog W2.drew = .ok (goInt n) (W2.drew.setCells w.heap.size 2 (ivs L)) := fun ty dc sc =>
    own_copy (k := n) (zs := L) (show Own W2.drew _ _ _ _ _ _ from H2.out.1) Tryz.underlying26 size_quo (by rw [hnn]; exact Nat.min_self n) hl (by rw [setL_len]; simp; omega) (own_atQ (show Own W2.drew _ _ _ _ _ _ from hoG))
  have ho3 := (show Own W2.drew _ _ _ _ _ _ from H2.out.1).setCells L 2 (by rw [setL_len]; simp; omega)
  have hb3 : Below w.heap.size w (W2.drew.setCells w.heap.size 2 (ivs L)) := belowSetCells (Nat.le_refl _) _ _ (below_drew H2.out.2)
  have hLL : setL (setL (List.replicate ((n + 1) * 2) 0) 0 [0, 1]) 2 L = 0 :: 1 :: L := by
    have e : List.replicate ((n + 1) * 2) (0 : Int) = 0 :: 0 :: List.replicate (n * 2) 0 := by
      rw [show (n + 1) * 2 = n * 2 + 1 + 1 by omega]; rfl
    rw [e]
    show setL ([0, 1] ++ List.replicate (n * 2) 0) [(0 : Int), 1].length L = _
    rw [setL_app L [0, 1] _ (by simp [hl])]; rfl
  rw [hLL] at ho3
  obtain ⟨W3, hW3⟩ : ∃ W3, W3 = W2.drew.setCells w.heap.size 2 (ivs L) := ⟨_, rfl⟩
  rw [← hW3] at hcq ho3 hb3
  have H3 := Lib.hid (And.intro ho3 hb3)
  clear ho3 hb3 hW3 hLL hcp
  go_region_law (refine step_copy rfl _ _ 26 26 rfl (.slice (some ⟨w.heap.size, 2, none⟩) (n + 1 - 1) (cap' - 1)) (.slice (some ⟨g, 0, none⟩) n n) (by simp [Act.eval, Act.put]) (by simp [Act.eval, Act.put]) (hcq 3 (cap' - 1) n) ?_)
  go_wp2
  go_ret
  exact ⟨cap', rfl, H3.out.1, H3.out.2⟩
end Go.Proofs.YtoaomjchaihkaaaGreatDoor
namespace Go.Proofs.YtoaomjchaihkaaaGreatDoor
open Go.RowKit
set_option linter.unusedVariables false

/-- the first quotients, and zeros behind them -/
def qP (k j : Nat) (f : Nat → Int × Int) : List Int := flq ((List.range j).map f) ++ List.replicate ((k - j) * 2) 0
theorem qP_len {k j : Nat} (f : Nat → Int × Int) (h : j ≤ k) : (qP k j f).length = k * 2 := by unfold qP; rw [List.length_append, flq_len]; simp; omega
theorem qP_zero (k : Nat) (f : Nat → Int × Int) : qP k 0 f = List.replicate (k * 2) 0 := by unfold qP; simp [flq]
theorem qP_done (k : Nat) (f : Nat → Int × Int) : qP k k f = flq ((List.range k).map f) := by unfold qP; simp
theorem qP_set {k j : Nat} (f : Nat → Int × Int) (h : j < k) : ((qP k j f).set (j * 2) (f j).1).set (j * 2 + 1) (f j).2 = qP k (j + 1) f := by
  have hl : (flq ((List.range j).map f)).length = j * 2 := by rw [flq_len]; simp
  have e : List.replicate ((k - j) * 2) (0 : Int) = 0 :: 0 :: List.replicate ((k - (j + 1)) * 2) 0 := by
    rw [show (k - j) * 2 = (k - (j + 1)) * 2 + 1 + 1 by omega]; rfl
  unfold qP
  rw [e, List.set_append_right _ _ (by omega), hl, Nat.sub_self, List.set_append_right _ _ (by omega), hl, show j * 2 + 1 - j * 2 = 1 by omega, List.range_succ, List.map_append, flq_append]
  simp [flq]
theorem made_quos (w : World) (n : Nat) (hn : n ≤ 1048576) : (Instr.makeSlice 26 (.int .i64 (n : Int)) (.int .i64 (n : Int))).run Tryz.prog w = .ok (.slice (some ⟨w.heap.size, 0, none⟩) n n) (w.alloc (.cells (madeCells (Array.replicate 2 (.int .i64 0)) (n * 2)) 36)) := by
  obtain ⟨i, hi, hzz⟩ := Option.map_eq_some_iff.1 info_quo
  simp only [Prod.mk.injEq] at hzz
  obtain ⟨hz, hs, hb⟩ := hzz
  have := run_make (P := Tryz.prog) w 26 36 i _ Tryz.underlying26 hi hz .i64 .i64 n n (by omega) (Int.le_refl _) (by rw [hb]; omega) (by omega)
  simp only [Int.toNat_natCast, hs] at this
  exact this
section
variable (k c d : Nat) (p q : Option Addr) (L : List (List Int)) (xs : List Int) (D : Int) (top : Nat → Int) (w : World)
set_option maxHeartbeats 4000000 in
set_option maxRecDepth 100000 in
theorem iQuos (a : Addr) (ha : w.cell? ⟨0, 0, none⟩ = some (.iface 162 (.pointer (some a)))) (h : GRead w p L) (hq : Ints w q xs) (hs : Sq k L) (hn : xs.length = k) (hk5 : k ≤ 5) (hr0 : In64 k (ent L)) (hD : det k (ent L) = D) (hd0 : -9223372036854775808 ≤ D ∧ D < 9223372036854775808)
    (hr : ∀ j, j < k → In64 k (upc (ent L) j (num xs))) (hT : ∀ j, j < k → det k (upc (ent L) j (num xs)) = top j) (hd : ∀ j, j < k → -9223372036854775808 ≤ top j ∧ top j < 9223372036854775808) :
    Calls Tryz.prog 32 #[.slice p k c, .slice q k d] w fun e w' => (((∀ j, j < k → Quo.rOk (top j) D = true) ∧ ∃ g, e = .returned (.tuple #[.slice (some ⟨g, 0, none⟩) k k, .nilIface]) ∧ w.heap.size ≤ g ∧ Own w' g 36 2 k k (flq ((List.range k).map (fun j => (Quo.rT (top j) D, Quo.rL (top j) D))))) ∨
      ((∃ j, j < k ∧ Quo.rOk (top j) D = false) ∧ e = .returned (.tuple #[.slice none 0 0, .iface 162 (.pointer (some a))]))) ∧ Below w.heap.size w w' := by
  have c1 := fun w h => Lib.hid (by have := iDetG k c p L w h hs hk5 hr0 (by rw [hD]; exact hd0); rw [hD] at this; exact this)
  have c2 := fun w h hq => Lib.hid (iColDets k c d p q L xs w h hq hs hn hk5 hr (fun j hj => by rw [hT j hj]; exact hd j hj))
  have hmk := fun w => made_quos w k (by omega)
  have HT : Hid (∀ j, j < k → (slL k L xs)[j]? = some (top j)) := Lib.hid (fun j hj => by
    unfold slL
    rw [List.getElem?_map, List.getElem?_range hj, ← hT j hj]; rfl)
  have H := Lib.hid (And.intro h hq)
  clear h hq hs hn hr0 hD hd0 hr hT hd
  go_enter Tryz.func32, Tryz.ntmps32
  go_upto_region 3 with (go_at_call 69; (with_reducible refine ((c1 _ ?_).out).mono ?_); (focus (exact H.out.1; done)); rintro e w1 ⟨rfl, hb_w1⟩)
  clear hmk c1
  have hs1 := hb_w1.size
  have H0 : Hid (Own (w1.alloc (.cells (madeCells (Array.replicate 2 (.int .i64 0)) (k * 2)) 36)) w1.heap.size 36 2 k k (qP k 0 (fun j => (Quo.rT (top j) D, Quo.rL (top j) D)))) := Lib.hid (by
    rw [qP_zero]
    exact Own.made w1 36 k 2 (by decide) (by unfold maxLen; omega))
  have hbA : Below w.heap.size w (w1.alloc (.cells (madeCells (Array.replicate 2 (.int .i64 0)) (k * 2)) 36)) := hb_w1.alloc hs1 _
  obtain ⟨V, hV⟩ : ∃ V, V = w1.alloc (.cells (madeCells (Array.replicate 2 (.int .i64 0)) (k * 2)) 36) := ⟨_, rfl⟩
  obtain ⟨g, hg⟩ : ∃ g, g = w1.heap.size := ⟨_, rfl⟩
  rw [← hV, ← hg] at H0
  rw [← hV] at hbA ⊢
  rw [← hg] at hs1 ⊢
  have HB := Lib.hid hbA
  have hsV := hbA.size
  clear hV hg hbA hb_w1
  go_upto_region 4 with (go_at_call 70; (with_reducible refine ((c2 _ ?_ ?_).out).mono ?_); (focus (exact H.out.1.below HB.out; done)); (focus (exact H.out.2.below HB.out; done)); rintro e w2 ⟨rfl, ho_w2, hb_w2⟩; have HC := Lib.hid (And.intro ho_w2 hb_w2); clear ho_w2 hb_w2)
  have hs2 := HC.out.2.size
  have hgV : g < V.heap.size := H0.out.lt
  have HBC := Lib.hid (HB.out.trans (HC.out.2.mono hsV))
  go_loopw [21] (fun i wr => ∃ x : Nat, x ≤ k ∧ i = .int .i64 x ∧ Own wr g 36 2 k k (qP k x (fun j => (Quo.rT (top j) D, Quo.rL (top j) D))) ∧ (∀ i, i < x → Quo.rOk (top i) D = true) ∧ Own wr V.heap.size 3 1 k k (slL k L xs) ∧ Below w.heap.size w wr) (fun i _ => k - (intOf i).toNat)
  case atStart => exact ⟨0, Nat.zero_le _, rfl, H0.out.below HC.out.2, fun i hi => by omega, HC.out.1, HBC.out⟩
  case round =>
    clear H0 HBC
    rename World => wr
    obtain ⟨x, hx, rfl, ho, hall, hoi, hBr⟩ := hrel
    have hlo := ho.lt
    have hli := hoi.lt
    have hsr := hBr.size
    by_cases hlt : x < k
    · have hlt' : (x : Int) < (k : Int) := by omega
      have e0 := hoi.cells (HT.out x hlt)
      have hpl := qP_len (fun j => (Quo.rT (top j) D, Quo.rL (top j) D)) hx
      have e1 := ho.cells (i := x * 2) (List.getElem?_eq_getElem (by omega))
      have e2 := ho.cells (i := x * 2 + 1) (List.getElem?_eq_getElem (by omega))
      have f1 := ho.frozen (x * 2)
      have f2 := ho.frozen (x * 2 + 1)
      have st := fun (W : World) (hW : Below wr.heap.size wr W) => Lib.hid (by
        have h1 := ((ho.below hW).set (x * 2) (Quo.rT (top x) D) (by omega)).set (x * 2 + 1) (Quo.rL (top x) D) (by simp; omega)
        rw [qP_set (fun j => (Quo.rT (top j) D, Quo.rL (top j) D)) hlt] at h1
        exact h1)
      have c3 := fun w => Lib.hid (iof_any (top x) D w)
      have er := cell_below_keep hBr ha
      obtain ⟨A, hA⟩ : ∃ A, Quo.rT (top x) D = A := ⟨_, rfl⟩
      obtain ⟨B, hB⟩ : ∃ B, Quo.rL (top x) D = B := ⟨_, rfl⟩
      rw [hA, hB] at st c3
      have HX := Lib.hid (And.intro hoi (And.intro hBr hall))
      cases hk : Quo.rOk (top x) D
      · rw [hk] at c3
        have HK := Lib.hid hk
        clear ho hoi hBr hall hk hA hB e1 e2 f1 f2 st
        go_upto_region 8 with ((go_at_call 27; (with_reducible refine ((c3 _).out).mono ?_); rintro e w3 ⟨rfl, hb_w3⟩; have hs_w3 := hb_w3.size; (try simp at hs_w3)))
        have hB4 : Below wr.heap.size wr (w3.alloc (.cells #[.int .i64 A, .int .i64 B] 36)) := hb_w3.alloc hs_w3 _
        have er2 := cell_below_keep hB4 er
        obtain ⟨W4, hW4⟩ : ∃ W, W = w3.alloc (.cells #[.int .i64 A, .int .i64 B] 36) := ⟨_, rfl⟩
        rw [← hW4] at hB4 er2 ⊢
        have HB4 := Lib.hid hB4
        clear hB4 hW4
        go_region
        go_wp2_with fail
        refine bodyPost_ret (v := .tuple #[.slice none 0 0, .iface 162 (.pointer (some a))]) (by simp [results, Tryz.results32, go_sem]) rfl ⟨.inr ⟨⟨x, hlt, HK.out⟩, rfl⟩, below_drew (HX.out.2.1.trans (HB4.out.mono hsr))⟩
      · rw [hk] at c3
        have HK := Lib.hid hk
        obtain ⟨y1, hy1⟩ : ∃ y, (qP k x (fun j => (Quo.rT (top j) D, Quo.rL (top j) D)))[x * 2]'(by omega) = y := ⟨_, rfl⟩
        obtain ⟨y2, hy2⟩ : ∃ y, (qP k x (fun j => (Quo.rT (top j) D, Quo.rL (top j) D)))[x * 2 + 1]'(by omega) = y := ⟨_, rfl⟩
        rw [hy1] at e1
        rw [hy2] at e2
        clear ho hoi hBr hall hk hA hB hy1 hy2
        go_upto_region 9 with ((go_at_call 27; (with_reducible refine ((c3 _).out).mono ?_); rintro e w3 ⟨rfl, hb_w3⟩; have hs_w3 := hb_w3.size; (try simp at hs_w3)))
        have hB4 : Below wr.heap.size wr (w3.alloc (.cells #[.int .i64 A, .int .i64 B] 36)) := hb_w3.alloc hs_w3 _
        have q1 : (w3.alloc (.cells #[.int .i64 A, .int .i64 B] 36)).cell? ⟨w3.heap.size, 0, none⟩ = some (.int .i64 A) := by simp [go_sem]
        have q2 : (w3.alloc (.cells #[.int .i64 A, .int .i64 B] 36)).cell? ⟨w3.heap.size, 1, none⟩ = some (.int .i64 B) := by simp [go_sem]
        obtain ⟨W4, hW4⟩ : ∃ W, W = w3.alloc (.cells #[.int .i64 A, .int .i64 B] 36) := ⟨_, rfl⟩
        rw [← hW4] at hB4 q1 q2 ⊢
        have g1 := cell_below_keep hB4 e1
        have g2 := cell_below_keep hB4 e2
        have z1 := frozen_below_keep hB4 e1 f1
        have z2 := frozen_below_keep hB4 e2 f2
        have hgr : ¬ w3.heap.size = g := by omega
        have hgr2 : ¬ g = w3.heap.size := by omega
        have ST := Lib.hid (And.intro (st W4 hB4).out hB4)
        clear hB4 hW4 st e1 e2 f1 f2 hb_w3
        go_wp2_with fail
        go_roundw
        case rel => exact ⟨x + 1, by omega, by go_num, ST.out.1, fun i hi => by
            by_cases hix : i < x
            · exact HX.out.2.2 i hix
            · obtain rfl : i = x := by omega
              exact HK.out, ((HX.out.1.below ST.out.2).setOther (a := ⟨g, x * 2, none⟩) (by show V.heap.size ≠ g; omega) _).setOther (a := ⟨g, x * 2 + 1, none⟩) (by show V.heap.size ≠ g; omega) _, ((HX.out.2.1.trans (ST.out.2.mono hsr)).setCell (p := ⟨g, x * 2, none⟩) hs1 _).setCell (p := ⟨g, x * 2 + 1, none⟩) hs1 _⟩
        case measure => simp [intOf]; omega
    · have e : x = k := by omega
      subst e
      rw [qP_done] at ho
      have HX := Lib.hid (And.intro ho (And.intro hBr hall))
      clear ho hoi hBr hall
      go_wp2_with fail
      refine bodyPost_ret (v := .tuple #[.slice (some ⟨g, 0, none⟩) x x, .nilIface]) (by simp [results, Tryz.results32, go_sem]) rfl ⟨.inl ⟨HX.out.2.2, g, rfl, hs1, HX.out.1⟩, HX.out.2.1⟩
end
end Go.Proofs.YtoaomjchaihkaaaGreatDoor
