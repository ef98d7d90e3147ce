/-
  What the draws of polygons use: an append behind a part of a list that the call made.
-/
import Derived.Test.YthecapioagogbaaZo
import Derived.Test.YthecapioagogbaaDPt
import Derived.Test.YthecapioagogbaaYp
import Derived.Test.YthecapioagogbaaOpP
import Derived.Deep.AppendSrc
namespace Go.Proofs.Ythecapioagogbaa
open Go.RowKit Poly
set_option linter.unusedVariables false

theorem tape_setCells (g : Nat) : ∀ (vs : List Value) (o : Nat) (w : World), (w.setCells g o vs).tape = w.tape ∧ (w.setCells g o vs).heap.size = w.heap.size
  | [], o, w => ⟨rfl, rfl⟩
  | v :: r, o, w => by
    have h := tape_setCells g r (o + 1) (w.setCell ⟨g, o, none⟩ v)
    exact ⟨by rw [World.setCells, h.1]; rfl, by rw [World.setCells, h.2]; simp⟩
theorem gb_setCells (w : World) (g : Nat) (vs : List Value) (o : Nat) : w.grownBy (w.setCells g o vs) (some g) := by
  have h := World.keptBut_setCells g (may := fun p => p.block = g) vs o w (fun _ _ => rfl)
  exact ⟨h.1, (tape_setCells g vs o w).1, h.2.1, Nat.le_of_eq (tape_setCells g vs o w).2.symm, fun k hk hne => h.block hk (fun _ hp e => hne (by rw [← e, hp]))⟩
theorem Own.there {w : World} {g : Nat} {T : TypeId} {sz n cap : Nat} {xs : List Int} (h : Own w g T sz n cap xs) {i : Nat} (hi : i < cap * sz) : (w.cell? ⟨g, i, none⟩).isSome = true := by
  obtain ⟨cur, hg, h1, h2, h3, h4, h5⟩ := h.body
  rw [Joins.cell_of_block hg, Array.getElem?_eq_getElem (by omega)]
  rfl

theorem run_off {P : Program} (w : World) {o : Oper} {a : Act} {K : Act → World → Prop} {Q : Exit → Act → World → Prop} (s x : Operand) (t : TypeId)
    (ho : o.op = .call { callee := .builtin .append, args := #[s, x], argTypes := #[t, t] })
    (e : TypeId) (z : Value) (sz bytes : Nat) (ht : P.underlying t = some (.slice e)) (hinfo : (P.info? e).map (fun i => (i.zero, i.size, i.bytes)) = some (some z, sz, bytes)) (hzs : z.cells.size = sz) (hsz : 0 < sz) (hby : bytes ≤ 32)
    (g n cap k : Nat) (xs : List Int) (hkn : k ≤ n) (hown : Own w g e sz n cap xs) (hs : a.eval s = .slice (some ⟨g, k * sz, none⟩) (n - k) (cap - k))
    (ad : Addr) (m c : Nat) (news : List Int) (hx : a.eval x = .slice (some ad) m c) (hl : news.length = m * sz) (hnews : ∀ (j : Nat) (z : Int), news[j]? = some z → w.cell? (ad.add j) = some (.int .i64 z)) (h63 : n + m ≤ 4194304)
    (h : ∀ g' o' cap' w', n - k + m ≤ cap' → Ints w' (some ⟨g', o', none⟩) (xs.drop (k * sz) ++ news) → w.grownBy w' (some g) → (g' = g ∨ g' = w.heap.size) → K (a.put o.dst (.slice (some ⟨g', o', none⟩) (n - k + m) cap')) w') :
    Oper.wp P o a w K Q := by
  obtain ⟨i, hi, hzz⟩ := Option.map_eq_some_iff.1 hinfo
  simp only [Prod.mk.injEq] at hzz
  obtain ⟨hz, hs', hb⟩ := hzz
  have hlt := hown.lt
  have hlen := hown.len
  have hcells := fun {i : Nat} {z : Int} => hown.cells (i := i) (z := z)
  have hnc : n ≤ cap := by obtain ⟨_, _, h1, _⟩ := hown.body; exact h1
  have hnews' : ∀ j u, (ivs news)[j]? = some u → w.cell? (ad.add j) = some u := by
    intro j u hu
    rw [ivs, List.getElem?_map] at hu
    obtain ⟨z', hz', rfl⟩ := Option.map_eq_some_iff.1 hu
    exact hnews j z' hz'
  have hone : ∀ u ∈ ivs news, u.oneCell' = true := by
    intro u hu
    rw [ivs, List.mem_map] at hu
    obtain ⟨z', _, rfl⟩ := hu
    rfl
  have hll : (ivs news).length = m * i.size := by rw [hs']; simpa [ivs] using hl
  subst hs'
  have hsub : (n - k) * i.size = n * i.size - k * i.size := Nat.sub_mul _ _ _
  have hkm : k * i.size ≤ n * i.size := Nat.mul_le_mul_right _ hkn
  have holds : ∀ j v, (ivs (xs.drop (k * i.size)))[j]? = some v → w.cell? ((⟨g, k * i.size, none⟩ : Addr).add j) = some v := by
    intro j u hu
    rw [ivs, List.getElem?_map, List.getElem?_drop] at hu
    obtain ⟨z', hz', rfl⟩ := Option.map_eq_some_iff.1 hu
    rw [Addr.add_lit]
    exact hcells hz'
  by_cases hroom : n - k + m ≤ cap - k
  · have hmul : (n + m) * i.size ≤ cap * i.size := Nat.mul_le_mul_right _ (by omega)
    rw [Nat.add_mul] at hmul
    have hsome : ∀ j, j < (ivs news).length → (w.cell? ⟨g, k * i.size + (n - k) * i.size + j, none⟩).isSome = true := fun j hj => hown.there (by omega)
    have hr := run_append_room_src (P := P) w t t o.type e i ht hi g (k * i.size) (n - k) (cap - k) (.slice (some ad) m c) m (ivs news) (Src.ofSlice (P := P) w ht ad m c (ivs news) hll hnews' hone) hroom hsome (fun j _ => hown.frozen _)
    unfold Oper.wp execOp
    simp only [ho, resolve, invoke, builtin, Sem.run_bind, Sem.run_pure, Result.andThen_ok, List.map_toArray, List.map_cons, List.map_nil, hs, hx, hr]
    refine (h g (k * i.size) (cap - k) _ hroom (.inr ⟨g, k * i.size, rfl, by rw [(tape_setCells g _ _ w).2]; exact hlt, ?_⟩) (gb_setCells _ _ _ _) (.inl rfl))
    intro j z' hj
    by_cases hjl : j < (xs.drop (k * i.size)).length
    · rw [List.getElem?_append_left hjl, List.getElem?_drop] at hj
      rw [World.cell?_setCells_out g _ _ _ _ (fun _ _ => Or.inl (by show k * i.size + j < _; rw [List.length_drop] at hjl; omega))]
      exact hcells hj
    · rw [List.getElem?_append_right (by omega)] at hj
      rw [List.length_drop] at hj hjl
      have hjn := (List.getElem?_eq_some_iff.1 hj).1
      have hin := World.cell?_setCells_in g (ivs news) (k * i.size + (n - k) * i.size) w hsome (j - (xs.length - k * i.size)) (by simpa [ivs] using hjn)
      rw [show k * i.size + (n - k) * i.size + (j - (xs.length - k * i.size)) = k * i.size + j by omega] at hin
      rw [hin]
      have := (List.getElem?_eq_some_iff.1 hj).2
      simp [ivs, this]
  · have h32 : (n - k + m) * i.bytes ≤ 4194304 * 32 := Nat.mul_le_mul (by omega) (by omega)
    have hr := run_append_grow (P := P) w t o.type e i z ht hi hz ⟨g, k * i.size, none⟩ (n - k) (cap - k) (ivs (xs.drop (k * i.size))) (by simp [ivs]; omega) holds ad m c (ivs news) hll hnews' (by omega) (by omega) (growslice_fits (by omega) (by omega))
    have hge := grownCap_ge w (n - k + m) (cap - k) e
    unfold Oper.wp execOp
    simp only [ho, resolve, invoke, builtin, Sem.run_bind, Sem.run_pure, Result.andThen_ok, List.map_toArray, List.map_cons, List.map_nil, hs, hx, hr]
    refine (h w.heap.size 0 _ _ hge (.inr ⟨_, 0, rfl, by simp, ?_⟩) ⟨rfl, rfl, rfl, by simp, fun q hq _ => Below.heap_alloc w.drew _ q hq⟩ (.inr rfl))
    intro j z' hj
    have hjl := (List.getElem?_eq_some_iff.1 hj).1
    rw [Nat.zero_add]
    have e1 : (w.drew.alloc (.cells ((ivs (xs.drop (k * i.size))).toArray ++ (ivs news).toArray ++ Builtin.zeroCells z.cells (grownCap w (n - k + m) (cap - k) e - (n - k + m))) e)).cell? ⟨w.heap.size, j, none⟩ = _ := World.cell?_alloc_new w.drew _ _ j
    rw [e1, Array.getElem?_append_left (by simpa [ivs] using hjl)]
    rw [List.append_toArray, List.getElem?_toArray]
    have : (ivs (xs.drop (k * i.size)) ++ ivs news) = ivs (xs.drop (k * i.size) ++ news) := by simp [ivs]
    rw [this, ivs, List.getElem?_map, hj]
    rfl
theorem step_off {P : Program} (w : World) {ops : Array Oper} {o : Oper} {a : Act} {K : Act → World → Prop} {Q : Exit → Act → World → Prop} {E : Prop} (hgd : o.guard = none) (s x : Operand) (t : TypeId)
    (ho : o.op = .call { callee := .builtin .append, args := #[s, x], argTypes := #[t, t] })
    (e : TypeId) (z : Value) (sz bytes : Nat) (ht : P.underlying t = some (.slice e)) (hinfo : (P.info? e).map (fun i => (i.zero, i.size, i.bytes)) = some (some z, sz, bytes)) (hzs : z.cells.size = sz) (hsz : 0 < sz) (hby : bytes ≤ 32)
    (g n cap k : Nat) (xs : List Int) (hkn : k ≤ n) (hown : Own w g e sz n cap xs) (hs : a.eval s = .slice (some ⟨g, k * sz, none⟩) (n - k) (cap - k))
    (ad : Addr) (m c : Nat) (news : List Int) (hx : a.eval x = .slice (some ad) m c) (hl : news.length = m * sz) (hnews : ∀ (j : Nat) (z : Int), news[j]? = some z → w.cell? (ad.add j) = some (.int .i64 z)) (h63 : n + m ≤ 4194304)
    (h : ∀ g' o' cap' w', n - k + m ≤ cap' → Ints w' (some ⟨g', o', none⟩) (xs.drop (k * sz) ++ news) → w.grownBy w' (some g) → (g' = g ∨ g' = w.heap.size) → K (a.put o.dst (.slice (some ⟨g', o', none⟩) (n - k + m) cap')) w') :
    if Region.wanted o (yielded ops a.tmps) = true then Oper.wp P o a w K Q else E := by
  have hw : Region.wanted o (yielded ops a.tmps) = true := by simp [Region.wanted, hgd]
  rw [if_pos hw]
  exact run_off w s x t ho e z sz bytes ht hinfo hzs hsz hby g n cap k xs hkn hown hs ad m c news hx hl hnews h63 h
theorem step_at {P : Program} (w : World) {ops : Array Oper} {o : Oper} {a : Act} {K : Act → World → Prop} {Q : Exit → Act → World → Prop} {E : Prop} (hgd : o.guard = none) (s x : Operand) (t : TypeId)
    (ho : o.op = .call { callee := .builtin .append, args := #[s, x], argTypes := #[t, t] })
    (e : TypeId) (z : Value) (sz bytes : Nat) (ht : P.underlying t = some (.slice e)) (hinfo : (P.info? e).map (fun i => (i.zero, i.size, i.bytes)) = some (some z, sz, bytes)) (hzs : z.cells.size = sz) (hsz : 0 < sz) (hby : bytes ≤ 32)
    (g n cap k : Nat) (xs : List Int) (n1 c1 o1 : Nat) (hn1 : n = k + n1) (hc1 : cap = k + c1) (ho1 : o1 = k * sz) (hown : Own w g e sz n cap xs) (hs : a.eval s = .slice (some ⟨g, o1, none⟩) n1 c1)
    (ad : Addr) (m c : Nat) (news : List Int) (hx : a.eval x = .slice (some ad) m c) (hl : news.length = m * sz) (hnews : ∀ (j : Nat) (z : Int), news[j]? = some z → w.cell? (ad.add j) = some (.int .i64 z)) (h63 : n + m ≤ 4194304)
    (h : ∀ g' o' cap' w', n1 + m ≤ cap' → Ints w' (some ⟨g', o', none⟩) (xs.drop (k * sz) ++ news) → w.grownBy w' (some g) → (g' = g ∨ g' = w.heap.size) → K (a.put o.dst (.slice (some ⟨g', o', none⟩) (n1 + m) cap')) w') :
    if Region.wanted o (yielded ops a.tmps) = true then Oper.wp P o a w K Q else E := by
  have hw : Region.wanted o (yielded ops a.tmps) = true := by simp [Region.wanted, hgd]
  rw [if_pos hw]
  subst hn1 hc1 ho1
  refine run_off w s x t ho e z sz bytes ht hinfo hzs hsz hby g (k + n1) (k + c1) k xs (Nat.le_add_right _ _) hown (by rw [hs, Nat.add_sub_cancel_left, Nat.add_sub_cancel_left]) ad m c news hx hl hnews h63 ?_
  rw [Nat.add_sub_cancel_left]
  exact h
theorem cell_adD {w : World} {b i : Nat} {v : Value} (o : Obj) (h : w.cell? ⟨b, i, none⟩ = some v) : (w.alloc o).drew.cell? ⟨b, i, none⟩ = some v :=
  (((Below.refl w.heap.size w).alloc (Nat.le_refl _) o).cell (p := ⟨b, i, none⟩) (World.block_lt_of_cell? w _ h)).trans h
theorem own_drD {w : World} {g : Nat} {T : TypeId} {sz n cap : Nat} {xs : List Int} (h : Own w g T sz n cap xs) : Own w.drew g T sz n cap xs := h
theorem two_cellsD (V : World) (x y : Int) (T : TypeId) : ∀ (j : Nat) (z : Int), [x, y][j]? = some z → (V.alloc (.cells #[.int .i64 x, .int .i64 y] T)).cell? ((⟨V.heap.size, 0, none⟩ : Addr).add j) = some (.int .i64 z) := by
  intro j z hj
  have hb : (V.alloc (.cells #[.int .i64 x, .int .i64 y] T)).heap[V.heap.size]? = some (.cells #[.int .i64 x, .int .i64 y] T (0, 0)) := Deep.blk_alloc_new _ _
  match j, hj with
  | 0, hj => simp at hj; subst hj; show World.cell? _ ⟨V.heap.size, 0, none⟩ = _; unfold World.cell?; rw [hb]; rfl
  | 1, hj => simp at hj; subst hj; show World.cell? _ ⟨V.heap.size, 1, none⟩ = _; unfold World.cell?; rw [hb]; rfl
  | j + 2, hj => simp at hj
end Go.Proofs.Ythecapioagogbaa
