/-
  What the draws of polygons use: an append behind a part of a list that the call made.
  What the draw of a box gives: a list of four or five points, by the reader and new memory alone.
  What the draw of a star gives: a list of at most twelve points, by the reader and new memory alone.
  What the draw of a polygon gives: a list of at most twelve points, by the reader and new memory alone.
  What the draw of the law on areas gives, and the laws' helpers: corners begun elsewhere, corners turned.
-/
import Derived.Test.YtgncjpakclbegaaZo
import Derived.Test.YtgncjpakclbegaaDPt
import Derived.Test.YtgncjpakclbegaaYra
import Derived.Test.YtgncjpakclbegaaOpP
import Derived.Deep.AppendSrc
import Derived.Test.YtgncjpakclbegaaYbq
import Derived.Test.YtgncjpakclbegaaYma
namespace Go.Proofs.Ytgncjpakclbegaa
open Go.RowKit Poly
set_option linter.unusedVariables false

theorem tape_setCells (g : Nat) : ∀ (vs : List Value) (o : Nat) (w : World), (w.setCells g o vs).tape = w.tape ∧ (w.setCells g o vs).heap.size = w.heap.size
  | [], o, w => ⟨rfl, rfl⟩
  | v :: r, o, w => by
    have h := tape_setCells g r (o + 1) (w.setCell ⟨g, o, none⟩ v)
    exact ⟨by rw [World.setCells, h.1]; rfl, by rw [World.setCells, h.2]; simp⟩
theorem gb_setCells (w : World) (g : Nat) (vs : List Value) (o : Nat) : w.grownBy (w.setCells g o vs) (some g) := by
  have h := World.keptBut_setCells g (may := fun p => p.block = g) vs o w (fun _ _ => rfl)
  exact ⟨h.1, (tape_setCells g vs o w).1, h.2.1, Nat.le_of_eq (tape_setCells g vs o w).2.symm, fun k hk hne => h.block hk (fun _ hp e => hne (by rw [← e, hp]))⟩
theorem Own.there {w : World} {g : Nat} {T : TypeId} {sz n cap : Nat} {xs : List Int} (h : Own w g T sz n cap xs) {i : Nat} (hi : i < cap * sz) : (w.cell? ⟨g, i, none⟩).isSome = true := by
  obtain ⟨cur, hg, h1, h2, h3, h4, h5⟩ := h.body
  rw [Joins.cell_of_block hg, Array.getElem?_eq_getElem (by omega)]
  rfl

theorem run_off {P : Program} (w : World) {o : Oper} {a : Act} {K : Act → World → Prop} {Q : Exit → Act → World → Prop} (s x : Operand) (t : TypeId)
    (ho : o.op = .call { callee := .builtin .append, args := #[s, x], argTypes := #[t, t] })
    (e : TypeId) (z : Value) (sz bytes : Nat) (ht : P.underlying t = some (.slice e)) (hinfo : (P.info? e).map (fun i => (i.zero, i.size, i.bytes)) = some (some z, sz, bytes)) (hzs : z.cells.size = sz) (hsz : 0 < sz) (hby : bytes ≤ 32)
    (g n cap k : Nat) (xs : List Int) (hkn : k ≤ n) (hown : Own w g e sz n cap xs) (hs : a.eval s = .slice (some ⟨g, k * sz, none⟩) (n - k) (cap - k))
    (ad : Addr) (m c : Nat) (news : List Int) (hx : a.eval x = .slice (some ad) m c) (hl : news.length = m * sz) (hnews : ∀ (j : Nat) (z : Int), news[j]? = some z → w.cell? (ad.add j) = some (.int .i64 z)) (h63 : n + m ≤ 4194304)
    (h : ∀ g' o' cap' w', n - k + m ≤ cap' → Ints w' (some ⟨g', o', none⟩) (xs.drop (k * sz) ++ news) → w.grownBy w' (some g) → (g' = g ∨ g' = w.heap.size) → K (a.put o.dst (.slice (some ⟨g', o', none⟩) (n - k + m) cap')) w') :
    Oper.wp P o a w K Q := by
  obtain ⟨i, hi, hzz⟩ := Option.map_eq_some_iff.1 hinfo
  simp only [Prod.mk.injEq] at hzz
  obtain ⟨hz, hs', hb⟩ := hzz
  have hlt := hown.lt
  have hlen := hown.len
  have hcells := fun {i : Nat} {z : Int} => hown.cells (i := i) (z := z)
  have hnc : n ≤ cap := by obtain ⟨_, _, h1, _⟩ := hown.body; exact h1
  have hnews' : ∀ j u, (ivs news)[j]? = some u → w.cell? (ad.add j) = some u := by
    intro j u hu
    rw [ivs, List.getElem?_map] at hu
    obtain ⟨z', hz', rfl⟩ := Option.map_eq_some_iff.1 hu
    exact hnews j z' hz'
  have hone : ∀ u ∈ ivs news, u.oneCell' = true := by
    intro u hu
    rw [ivs, List.mem_map] at hu
    obtain ⟨z', _, rfl⟩ := hu
    rfl
  have hll : (ivs news).length = m * i.size := by rw [hs']; simpa [ivs] using hl
  subst hs'
  have hsub : (n - k) * i.size = n * i.size - k * i.size := Nat.sub_mul _ _ _
  have hkm : k * i.size ≤ n * i.size := Nat.mul_le_mul_right _ hkn
  have holds : ∀ j v, (ivs (xs.drop (k * i.size)))[j]? = some v → w.cell? ((⟨g, k * i.size, none⟩ : Addr).add j) = some v := by
    intro j u hu
    rw [ivs, List.getElem?_map, List.getElem?_drop] at hu
    obtain ⟨z', hz', rfl⟩ := Option.map_eq_some_iff.1 hu
    rw [Addr.add_lit]
    exact hcells hz'
  by_cases hroom : n - k + m ≤ cap - k
  · have hmul : (n + m) * i.size ≤ cap * i.size := Nat.mul_le_mul_right _ (by omega)
    rw [Nat.add_mul] at hmul
    have hsome : ∀ j, j < (ivs news).length → (w.cell? ⟨g, k * i.size + (n - k) * i.size + j, none⟩).isSome = true := fun j hj => hown.there (by omega)
    have hr := run_append_room_src (P := P) w t t o.type e i ht hi g (k * i.size) (n - k) (cap - k) (.slice (some ad) m c) m (ivs news) (Src.ofSlice (P := P) w ht ad m c (ivs news) hll hnews' hone) hroom hsome (fun j _ => hown.frozen _)
    unfold Oper.wp execOp
    simp only [ho, resolve, invoke, builtin, Sem.run_bind, Sem.run_pure, Result.andThen_ok, List.map_toArray, List.map_cons, List.map_nil, hs, hx, hr]
    refine (h g (k * i.size) (cap - k) _ hroom (.inr ⟨g, k * i.size, rfl, by rw [(tape_setCells g _ _ w).2]; exact hlt, ?_⟩) (gb_setCells _ _ _ _) (.inl rfl))
    intro j z' hj
    by_cases hjl : j < (xs.drop (k * i.size)).length
    · rw [List.getElem?_append_left hjl, List.getElem?_drop] at hj
      rw [World.cell?_setCells_out g _ _ _ _ (fun _ _ => Or.inl (by show k * i.size + j < _; rw [List.length_drop] at hjl; omega))]
      exact hcells hj
    · rw [List.getElem?_append_right (by omega)] at hj
      rw [List.length_drop] at hj hjl
      have hjn := (List.getElem?_eq_some_iff.1 hj).1
      have hin := World.cell?_setCells_in g (ivs news) (k * i.size + (n - k) * i.size) w hsome (j - (xs.length - k * i.size)) (by simpa [ivs] using hjn)
      rw [show k * i.size + (n - k) * i.size + (j - (xs.length - k * i.size)) = k * i.size + j by omega] at hin
      rw [hin]
      have := (List.getElem?_eq_some_iff.1 hj).2
      simp [ivs, this]
  · have h32 : (n - k + m) * i.bytes ≤ 4194304 * 32 := Nat.mul_le_mul (by omega) (by omega)
    have hr := run_append_grow (P := P) w t o.type e i z ht hi hz ⟨g, k * i.size, none⟩ (n - k) (cap - k) (ivs (xs.drop (k * i.size))) (by simp [ivs]; omega) holds ad m c (ivs news) hll hnews' (by omega) (by omega) (growslice_fits (by omega) (by omega))
    have hge := grownCap_ge w (n - k + m) (cap - k) e
    unfold Oper.wp execOp
    simp only [ho, resolve, invoke, builtin, Sem.run_bind, Sem.run_pure, Result.andThen_ok, List.map_toArray, List.map_cons, List.map_nil, hs, hx, hr]
    refine (h w.heap.size 0 _ _ hge (.inr ⟨_, 0, rfl, by simp, ?_⟩) ⟨rfl, rfl, rfl, by simp, fun q hq _ => Below.heap_alloc w.drew _ q hq⟩ (.inr rfl))
    intro j z' hj
    have hjl := (List.getElem?_eq_some_iff.1 hj).1
    rw [Nat.zero_add]
    have e1 : (w.drew.alloc (.cells ((ivs (xs.drop (k * i.size))).toArray ++ (ivs news).toArray ++ Builtin.zeroCells z.cells (grownCap w (n - k + m) (cap - k) e - (n - k + m))) e)).cell? ⟨w.heap.size, j, none⟩ = _ := World.cell?_alloc_new w.drew _ _ j
    rw [e1, Array.getElem?_append_left (by simpa [ivs] using hjl)]
    rw [List.append_toArray, List.getElem?_toArray]
    have : (ivs (xs.drop (k * i.size)) ++ ivs news) = ivs (xs.drop (k * i.size) ++ news) := by simp [ivs]
    rw [this, ivs, List.getElem?_map, hj]
    rfl
theorem step_off {P : Program} (w : World) {ops : Array Oper} {o : Oper} {a : Act} {K : Act → World → Prop} {Q : Exit → Act → World → Prop} {E : Prop} (hgd : o.guard = none) (s x : Operand) (t : TypeId)
    (ho : o.op = .call { callee := .builtin .append, args := #[s, x], argTypes := #[t, t] })
    (e : TypeId) (z : Value) (sz bytes : Nat) (ht : P.underlying t = some (.slice e)) (hinfo : (P.info? e).map (fun i => (i.zero, i.size, i.bytes)) = some (some z, sz, bytes)) (hzs : z.cells.size = sz) (hsz : 0 < sz) (hby : bytes ≤ 32)
    (g n cap k : Nat) (xs : List Int) (hkn : k ≤ n) (hown : Own w g e sz n cap xs) (hs : a.eval s = .slice (some ⟨g, k * sz, none⟩) (n - k) (cap - k))
    (ad : Addr) (m c : Nat) (news : List Int) (hx : a.eval x = .slice (some ad) m c) (hl : news.length = m * sz) (hnews : ∀ (j : Nat) (z : Int), news[j]? = some z → w.cell? (ad.add j) = some (.int .i64 z)) (h63 : n + m ≤ 4194304)
    (h : ∀ g' o' cap' w', n - k + m ≤ cap' → Ints w' (some ⟨g', o', none⟩) (xs.drop (k * sz) ++ news) → w.grownBy w' (some g) → (g' = g ∨ g' = w.heap.size) → K (a.put o.dst (.slice (some ⟨g', o', none⟩) (n - k + m) cap')) w') :
    if Region.wanted o (yielded ops a.tmps) = true then Oper.wp P o a w K Q else E := by
  have hw : Region.wanted o (yielded ops a.tmps) = true := by simp [Region.wanted, hgd]
  rw [if_pos hw]
  exact run_off w s x t ho e z sz bytes ht hinfo hzs hsz hby g n cap k xs hkn hown hs ad m c news hx hl hnews h63 h
theorem step_at {P : Program} (w : World) {ops : Array Oper} {o : Oper} {a : Act} {K : Act → World → Prop} {Q : Exit → Act → World → Prop} {E : Prop} (hgd : o.guard = none) (s x : Operand) (t : TypeId)
    (ho : o.op = .call { callee := .builtin .append, args := #[s, x], argTypes := #[t, t] })
    (e : TypeId) (z : Value) (sz bytes : Nat) (ht : P.underlying t = some (.slice e)) (hinfo : (P.info? e).map (fun i => (i.zero, i.size, i.bytes)) = some (some z, sz, bytes)) (hzs : z.cells.size = sz) (hsz : 0 < sz) (hby : bytes ≤ 32)
    (g n cap k : Nat) (xs : List Int) (n1 c1 o1 : Nat) (hn1 : n = k + n1) (hc1 : cap = k + c1) (ho1 : o1 = k * sz) (hown : Own w g e sz n cap xs) (hs : a.eval s = .slice (some ⟨g, o1, none⟩) n1 c1)
    (ad : Addr) (m c : Nat) (news : List Int) (hx : a.eval x = .slice (some ad) m c) (hl : news.length = m * sz) (hnews : ∀ (j : Nat) (z : Int), news[j]? = some z → w.cell? (ad.add j) = some (.int .i64 z)) (h63 : n + m ≤ 4194304)
    (h : ∀ g' o' cap' w', n1 + m ≤ cap' → Ints w' (some ⟨g', o', none⟩) (xs.drop (k * sz) ++ news) → w.grownBy w' (some g) → (g' = g ∨ g' = w.heap.size) → K (a.put o.dst (.slice (some ⟨g', o', none⟩) (n1 + m) cap')) w') :
    if Region.wanted o (yielded ops a.tmps) = true then Oper.wp P o a w K Q else E := by
  have hw : Region.wanted o (yielded ops a.tmps) = true := by simp [Region.wanted, hgd]
  rw [if_pos hw]
  subst hn1 hc1 ho1
  refine run_off w s x t ho e z sz bytes ht hinfo hzs hsz hby g (k + n1) (k + c1) k xs (Nat.le_add_right _ _) hown (by rw [hs, Nat.add_sub_cancel_left, Nat.add_sub_cancel_left]) ad m c news hx hl hnews h63 ?_
  rw [Nat.add_sub_cancel_left]
  exact h
theorem cell_adD {w : World} {b i : Nat} {v : Value} (o : Obj) (h : w.cell? ⟨b, i, none⟩ = some v) : (w.alloc o).drew.cell? ⟨b, i, none⟩ = some v :=
  (((Below.refl w.heap.size w).alloc (Nat.le_refl _) o).cell (p := ⟨b, i, none⟩) (World.block_lt_of_cell? w _ h)).trans h
theorem own_drD {w : World} {g : Nat} {T : TypeId} {sz n cap : Nat} {xs : List Int} (h : Own w g T sz n cap xs) : Own w.drew g T sz n cap xs := h
theorem two_cellsD (V : World) (x y : Int) (T : TypeId) : ∀ (j : Nat) (z : Int), [x, y][j]? = some z → (V.alloc (.cells #[.int .i64 x, .int .i64 y] T)).cell? ((⟨V.heap.size, 0, none⟩ : Addr).add j) = some (.int .i64 z) := by
  intro j z hj
  have hb : (V.alloc (.cells #[.int .i64 x, .int .i64 y] T)).heap[V.heap.size]? = some (.cells #[.int .i64 x, .int .i64 y] T (0, 0)) := Deep.blk_alloc_new _ _
  match j, hj with
  | 0, hj => simp at hj; subst hj; show World.cell? _ ⟨V.heap.size, 0, none⟩ = _; unfold World.cell?; rw [hb]; rfl
  | 1, hj => simp at hj; subst hj; show World.cell? _ ⟨V.heap.size, 1, none⟩ = _; unfold World.cell?; rw [hb]; rfl
  | j + 2, hj => simp at hj
end Go.Proofs.Ytgncjpakclbegaa
namespace Go.Proofs.Ytgncjpakclbegaa
open Go.RowKit Poly
set_option linter.unusedVariables false

/-- a draw of a list of points: at most twelve of them -/
def DPs (k R : Nat) (w : World) (e : Ending) (w' : World) : Prop :=
  ∃ (L : List P2) (p : Option Addr) (c : Nat), e = .returned (.slice p L.length c) ∧ L.length ≤ c ∧ L.length ≤ 12 ∧ Ints w' p (fl L) ∧ (L = [] ∨ ∃ B o, p = some ⟨B, o, none⟩ ∧ w.heap.size ≤ B) ∧ Rdr k w' R ∧ w.grownBy w' (some R)

set_option maxHeartbeats 8000000 in
theorem box_any (k R : Nat) (w : World) (h : Rdr k w R) (hk : k ≤ 100000) :
    Calls Try.prog 76 #[.pointer (some ⟨R, 0, none⟩)] w (DPs (k + 6) R w) := by
  have hR := rdr_lt h
  go_enter Try.func76, Try.ntmps76
  go_upto_region 5 with (first | (go_at_call 60; (with_reducible refine (pick_any (k) R (5) _ ?_ (by omega) (by omega) (by omega)).mono ?_); (focus ((repeat (first | with_reducible assumption | (with_reducible refine rdr_drewN ?_ _) | (with_reducible refine rdr_drew ?_) | (with_reducible refine rdr_alloc ?_ _) | (with_reducible refine rdr_setCell ?_ (by first | omega | (simp <;> omega) | simp) _) | (with_reducible refine rdr_chain ?_ (by with_reducible assumption)))); done)); rintro e wa ⟨m_wa, hm0_wa, hm1_wa, rfl, hR_wa, hg_wa, hq_wa⟩; have hs_wa := Nat.le_of_eq hq_wa; have ht_wa := Nat.le_of_eq hq_wa.symm; (try simp at hs_wa); (try simp at ht_wa); clear hq_wa) | (go_at_call 60; (with_reducible refine (pick_any (k + 1) R (5) _ ?_ (by omega) (by omega) (by omega)).mono ?_); (focus ((repeat (first | with_reducible assumption | (with_reducible refine rdr_drewN ?_ _) | (with_reducible refine rdr_drew ?_) | (with_reducible refine rdr_alloc ?_ _) | (with_reducible refine rdr_setCell ?_ (by first | omega | (simp <;> omega) | simp) _) | (with_reducible refine rdr_chain ?_ (by with_reducible assumption)))); done)); rintro e wb ⟨m_wb, hm0_wb, hm1_wb, rfl, hR_wb, hg_wb, hq_wb⟩; have hs_wb := Nat.le_of_eq hq_wb; have ht_wb := Nat.le_of_eq hq_wb.symm; (try simp at hs_wb); (try simp at ht_wb); clear hq_wb) | (go_at_call 60; (with_reducible refine (pick_any (k + 1 + 1) R (5) _ ?_ (by omega) (by omega) (by omega)).mono ?_); (focus ((repeat (first | with_reducible assumption | (with_reducible refine rdr_drewN ?_ _) | (with_reducible refine rdr_drew ?_) | (with_reducible refine rdr_alloc ?_ _) | (with_reducible refine rdr_setCell ?_ (by first | omega | (simp <;> omega) | simp) _) | (with_reducible refine rdr_chain ?_ (by with_reducible assumption)))); done)); rintro e wc ⟨m_wc, hm0_wc, hm1_wc, rfl, hR_wc, hg_wc, hq_wc⟩; have hs_wc := Nat.le_of_eq hq_wc; have ht_wc := Nat.le_of_eq hq_wc.symm; (try simp at hs_wc); (try simp at ht_wc); clear hq_wc) | (go_at_call 60; (with_reducible refine (pick_any (k + 1 + 1 + 1) R (5) _ ?_ (by omega) (by omega) (by omega)).mono ?_); (focus ((repeat (first | with_reducible assumption | (with_reducible refine rdr_drewN ?_ _) | (with_reducible refine rdr_drew ?_) | (with_reducible refine rdr_alloc ?_ _) | (with_reducible refine rdr_setCell ?_ (by first | omega | (simp <;> omega) | simp) _) | (with_reducible refine rdr_chain ?_ (by with_reducible assumption)))); done)); rintro e wd ⟨m_wd, hm0_wd, hm1_wd, rfl, hR_wd, hg_wd, hq_wd⟩; have hs_wd := Nat.le_of_eq hq_wd; have ht_wd := Nat.le_of_eq hq_wd.symm; (try simp at hs_wd); (try simp at ht_wd); clear hq_wd))
  have HG := Lib.hid (gb_trans (gb_trans (gb_trans hg_wa hg_wb) hg_wc) hg_wd)
  have hle : w.heap.size = wd.heap.size := by omega
  clear hR_wa hR_wb hR_wc hg_wa hg_wb hg_wc hg_wd hs_wa ht_wa hs_wb ht_wb hs_wc ht_wc hs_wd ht_wd
  go_upto_region 6 with fail
  have hO : Own (wd.alloc (.cells #[.int .i64 (m_wa - 2), .int .i64 (m_wb - 2), .int .i64 (m_wa - 2 + (1 + m_wc)), .int .i64 (m_wb - 2), .int .i64 (m_wa - 2 + (1 + m_wc)), .int .i64 (m_wb - 2 + (1 + m_wd)), .int .i64 (m_wa - 2), .int .i64 (m_wb - 2 + (1 + m_wd))] 31)) wd.heap.size 31 2 4 4 (fl [(m_wa - 2, m_wb - 2), (m_wa - 2 + (1 + m_wc), m_wb - 2), (m_wa - 2 + (1 + m_wc), m_wb - 2 + (1 + m_wd)), (m_wa - 2, m_wb - 2 + (1 + m_wd))]) :=
    .of (Deep.blk_alloc_new _ _) (Nat.le_refl _) (by unfold maxLen; omega) rfl rfl rfl
  obtain ⟨r0, L, hL⟩ : ∃ (r0 : P2) (L : List P2), r0 :: L = [(m_wa - 2, m_wb - 2), (m_wa - 2 + (1 + m_wc), m_wb - 2), (m_wa - 2 + (1 + m_wc), m_wb - 2 + (1 + m_wd)), (m_wa - 2, m_wb - 2 + (1 + m_wd))] := ⟨_, _, rfl⟩
  have hLl : L.length = 3 := by
    have := congrArg List.length hL
    simpa using this
  rw [← hL] at hO
  obtain ⟨g, hg⟩ : ∃ g, g = wd.heap.size := ⟨_, rfl⟩
  rw [← hg] at hO ⊢
  have hgR : g ≠ R := by omega
  have hRg : R < g := by omega
  have hgw : w.heap.size ≤ g := by omega
  refine gen_world (fun W => Own W g 31 2 4 4 (fl (r0 :: L)) ∧ Rdr (k + 4) W R ∧ w.grownBy W (some R)) ⟨hO, rdr_alloc hR_wd _, gb_alloc HG.out _⟩ (fun we hp => ?_)
  have HP := Lib.hid hp
  have hlt := hp.1.lt
  have hwe := hp.2.2.size
  have hR_we : Rdr (k + 4) we R := hp.2.1
  have c0 : we.cell? ⟨g, 0, none⟩ = some (.int .i64 r0.1) := hp.1.cells (i := 0) rfl
  have c1 : we.cell? ⟨g, 1, none⟩ = some (.int .i64 r0.2) := hp.1.cells (i := 1) rfl
  clear hp hO HG hR_wd hL hle hg
  by_cases h1 : (1 : Int) < 1 + m_wc
  · go_upto_region 7 with ((go_at_call 60; (with_reducible refine (pick_any (k + 4) R (2) _ ?_ (by omega) (by omega) (by omega)).mono ?_); (focus ((repeat (first | with_reducible assumption | (with_reducible refine rdr_drewN ?_ _) | (with_reducible refine rdr_drew ?_) | (with_reducible refine rdr_alloc ?_ _) | (with_reducible refine rdr_setCell ?_ (by first | omega | (simp <;> omega) | simp) _) | (with_reducible refine rdr_chain ?_ (by with_reducible assumption)))); done)); rintro e wf ⟨m_wf, hm0_wf, hm1_wf, rfl, hR_wf, hg_wf, hq_wf⟩; have hs_wf := Nat.le_of_eq hq_wf; have ht_wf := Nat.le_of_eq hq_wf.symm; (try simp at hs_wf); (try simp at ht_wf); clear hq_wf); have HF := Lib.hid (And.intro (HP.out.1.grown hg_wf hgR) (gb_trans HP.out.2.2 hg_wf)); obtain ⟨hcn, hfn⟩ := gcell hg_wf; have c0f := (hcn g 0 hlt hgR).trans c0; have c1f := (hcn g 1 hlt hgR).trans c1; have hltf : g < wf.heap.size := (by omega))
    · go_upto_region 8 with (at_builtin; refine wp_append _ rfl _ _ 23 rfl 31 _ 2 16 Try.underlying23 info_point rfl (by decide) (by decide) wf.heap.size 2 2 (fl [(m_wa - 2, m_wb - 2), (m_wa - 2 + 1, m_wb - 2)]) rfl (Own.of (Deep.blk_alloc_new _ _) (Nat.le_refl _) (by unfold maxLen; omega) rfl rfl rfl) ⟨g, 2, none⟩ 3 3 (fl L) rfl (by rw [fl_len, hLl]) (fun j z hj => by rw [Go.WideShapes.add_plain]; exact ((HF.out.1.alloc _).cells (i := 2 + j) (by rw [Nat.add_comm]; exact hj))) (by omega) ?_; intro g5 c5 w5 hO5 hg5 hl5 hlt5')
      have hlt5 := hO5.lt
      have HN5 : Hid (Own w5 g5 31 2 5 c5 (fl ((m_wa - 2, m_wb - 2) :: ((m_wa - 2 + 1, m_wb - 2) :: L))) ∧ Rdr (k + 5) w5 R ∧ w.grownBy w5 (some R)) := Lib.hid ⟨hO5, rdr_own (rdr_alloc hR_wf _) hg5 (by omega), gb_own (gb_alloc HF.out.2 _) hg5 (by omega)⟩
      have hg5R : g5 ≠ R := by rcases hl5 with rfl | rfl <;> (first | omega | (simp; omega))
      have hRg5 : R < g5 := by rcases hl5 with rfl | rfl <;> (first | omega | (simp; omega))
      have hgw5 : w.heap.size ≤ g5 := by rcases hl5 with rfl | rfl <;> (first | omega | (simp; omega))
      obtain ⟨p0, hp0⟩ : ∃ p0 : P2, p0 = (m_wa - 2, m_wb - 2) := ⟨_, rfl⟩
      obtain ⟨L5, hL5⟩ : ∃ L5 : List P2, L5 = (m_wa - 2 + 1, m_wb - 2) :: L := ⟨_, rfl⟩
      rw [← hp0, ← hL5] at HN5
      have hL5l : L5.length = 4 := by rw [hL5]; simp [hLl]
      have d0 : w5.cell? ⟨g5, 0, none⟩ = some (.int .i64 p0.1) := HN5.out.1.cells (i := 0) rfl
      have d1 : w5.cell? ⟨g5, 1, none⟩ = some (.int .i64 p0.2) := HN5.out.1.cells (i := 1) rfl
      have hR_w5 : Rdr (k + 5) w5 R := HN5.out.2.1
      have hc5 : 5 ≤ c5 := by obtain ⟨_, _, h1, _⟩ := HN5.out.1.body; exact h1
      clear hO5 hg5 hl5 hp0 hL5
      obtain ⟨q5, rfl⟩ : ∃ q, c5 = q + 5 := ⟨c5 - 5, by omega⟩
      go_wp2_with ((go_at_call 60; (with_reducible refine (pick_any (k + 5) R (3) _ ?_ (by omega) (by omega) (by omega)).mono ?_); (focus ((repeat (first | with_reducible assumption | (with_reducible refine rdr_drewN ?_ _) | (with_reducible refine rdr_drew ?_) | (with_reducible refine rdr_alloc ?_ _) | (with_reducible refine rdr_setCell ?_ (by first | omega | (simp <;> omega) | simp) _) | (with_reducible refine rdr_chain ?_ (by with_reducible assumption)))); done)); rintro e wz ⟨m_wz, hm0_wz, hm1_wz, rfl, hR_wz, hg_wz, hq_wz⟩; have hs_wz := Nat.le_of_eq hq_wz; have ht_wz := Nat.le_of_eq hq_wz.symm; (try simp at hs_wz); (try simp at ht_wz); clear hq_wz); obtain ⟨hcn, hfn⟩ := gcell hg_wz; have e0 := (hcn g5 0 hlt5 hg5R).trans d0; have e1 := (hcn g5 1 hlt5 hg5R).trans d1)
      · go_region_law ((refine step_at _ (by rfl) _ _ _ (by rfl) 31 _ 2 16 Try.underlying23 info_point rfl (by decide) (by decide) g5 5 (q5 + 5) 1 (fl (p0 :: L5)) 4 (q5 + 4) 2 (by omega) (by omega) (by omega) (((HN5.out.1).grown hg_wz hg5R).alloc _) (by rfl) ⟨wz.heap.size, 0, none⟩ 1 1 [p0.1, p0.2] (by rfl) rfl (two_cellsD _ _ _ _) (by omega) ?_; intro g' o' cap' w' hle' hI hgr hloc))
        have HN := Lib.hid (And.intro hle' (And.intro hI (And.intro hgr hloc)))
        clear hle' hI hgr hloc
        go_wp2_with fail
        refine bodyPost_ret (v := .slice (some ⟨g', o', none⟩) 5 cap') (by simp [results, Try.results76, go_sem]) rfl ?_
        refine ⟨L5 ++ [p0], some ⟨g', o', none⟩, cap', by simp [hL5l], by have := HN.out.1; simp [hL5l]; omega, by simp [hL5l], by rw [fl_append]; exact HN.out.2.1, Or.inr ⟨g', o', rfl, by have hx : g' = g5 ∨ wz.heap.size ≤ g' := HN.out.2.2.2.imp id (fun h => by simp at h; omega); omega⟩, rdr_mono (rdr_own (rdr_drew (rdr_alloc hR_wz _)) HN.out.2.2.1 (by omega)) (by omega), gb_own (gb_drew (gb_alloc (gb_trans (HN5.out.2.2) hg_wz) _)) HN.out.2.2.1 (by omega)⟩
      · go_ret
        exact ⟨p0 :: L5, _, (q5 + 5), by simp [hL5l], by first | (simp [hL5l]; done) | (simp [hL5l]; omega), by simp [hL5l], ((HN5.out.1).grown hg_wz hg5R).pts, Or.inr ⟨_, _, rfl, by omega⟩, rdr_mono hR_wz (by omega), gb_trans (HN5.out.2.2) hg_wz⟩
    · go_wp2_with ((go_at_call 60; (with_reducible refine (pick_any (k + 4 + 1) R (3) _ ?_ (by omega) (by omega) (by omega)).mono ?_); (focus ((repeat (first | with_reducible assumption | (with_reducible refine rdr_drewN ?_ _) | (with_reducible refine rdr_drew ?_) | (with_reducible refine rdr_alloc ?_ _) | (with_reducible refine rdr_setCell ?_ (by first | omega | (simp <;> omega) | simp) _) | (with_reducible refine rdr_chain ?_ (by with_reducible assumption)))); done)); rintro e wz ⟨m_wz, hm0_wz, hm1_wz, rfl, hR_wz, hg_wz, hq_wz⟩; have hs_wz := Nat.le_of_eq hq_wz; have ht_wz := Nat.le_of_eq hq_wz.symm; (try simp at hs_wz); (try simp at ht_wz); clear hq_wz); obtain ⟨hcn, hfn⟩ := gcell hg_wz; have e0 := (hcn g 0 hltf hgR).trans c0f; have e1 := (hcn g 1 hltf hgR).trans c1f)
      · go_region_law ((refine step_at _ (by rfl) _ _ _ (by rfl) 31 _ 2 16 Try.underlying23 info_point rfl (by decide) (by decide) g 4 4 1 (fl (r0 :: L)) 3 3 2 (by omega) (by omega) (by omega) (((HF.out.1).grown hg_wz hgR).alloc _) (by rfl) ⟨wz.heap.size, 0, none⟩ 1 1 [r0.1, r0.2] (by rfl) rfl (two_cellsD _ _ _ _) (by omega) ?_; intro g' o' cap' w' hle' hI hgr hloc))
        have HN := Lib.hid (And.intro hle' (And.intro hI (And.intro hgr hloc)))
        clear hle' hI hgr hloc
        go_wp2_with fail
        refine bodyPost_ret (v := .slice (some ⟨g', o', none⟩) 4 cap') (by simp [results, Try.results76, go_sem]) rfl ?_
        refine ⟨L ++ [r0], some ⟨g', o', none⟩, cap', by simp [hLl], by have := HN.out.1; simp [hLl]; omega, by simp [hLl], by rw [fl_append]; exact HN.out.2.1, Or.inr ⟨g', o', rfl, by have hx : g' = g ∨ wz.heap.size ≤ g' := HN.out.2.2.2.imp id (fun h => by simp at h; omega); omega⟩, rdr_mono (rdr_own (rdr_drew (rdr_alloc hR_wz _)) HN.out.2.2.1 (by omega)) (by omega), gb_own (gb_drew (gb_alloc (gb_trans (HF.out.2) hg_wz) _)) HN.out.2.2.1 (by omega)⟩
      · go_ret
        exact ⟨r0 :: L, _, 4, by simp [hLl], by first | (simp [hLl]; done) | (simp [hLl]; omega), by simp [hLl], ((HF.out.1).grown hg_wz hgR).pts, Or.inr ⟨_, _, rfl, by omega⟩, rdr_mono hR_wz (by omega), gb_trans (HF.out.2) hg_wz⟩
  · go_wp2_with ((go_at_call 60; (with_reducible refine (pick_any (k + 4) R (3) _ ?_ (by omega) (by omega) (by omega)).mono ?_); (focus ((repeat (first | with_reducible assumption | (with_reducible refine rdr_drewN ?_ _) | (with_reducible refine rdr_drew ?_) | (with_reducible refine rdr_alloc ?_ _) | (with_reducible refine rdr_setCell ?_ (by first | omega | (simp <;> omega) | simp) _) | (with_reducible refine rdr_chain ?_ (by with_reducible assumption)))); done)); rintro e wz ⟨m_wz, hm0_wz, hm1_wz, rfl, hR_wz, hg_wz, hq_wz⟩; have hs_wz := Nat.le_of_eq hq_wz; have ht_wz := Nat.le_of_eq hq_wz.symm; (try simp at hs_wz); (try simp at ht_wz); clear hq_wz); obtain ⟨hcn, hfn⟩ := gcell hg_wz; have e0 := (hcn g 0 hlt hgR).trans c0; have e1 := (hcn g 1 hlt hgR).trans c1)
    · go_region_law ((refine step_at _ (by rfl) _ _ _ (by rfl) 31 _ 2 16 Try.underlying23 info_point rfl (by decide) (by decide) g 4 4 1 (fl (r0 :: L)) 3 3 2 (by omega) (by omega) (by omega) (((HP.out.1).grown hg_wz hgR).alloc _) (by rfl) ⟨wz.heap.size, 0, none⟩ 1 1 [r0.1, r0.2] (by rfl) rfl (two_cellsD _ _ _ _) (by omega) ?_; intro g' o' cap' w' hle' hI hgr hloc))
      have HN := Lib.hid (And.intro hle' (And.intro hI (And.intro hgr hloc)))
      clear hle' hI hgr hloc
      go_wp2_with fail
      refine bodyPost_ret (v := .slice (some ⟨g', o', none⟩) 4 cap') (by simp [results, Try.results76, go_sem]) rfl ?_
      refine ⟨L ++ [r0], some ⟨g', o', none⟩, cap', by simp [hLl], by have := HN.out.1; simp [hLl]; omega, by simp [hLl], by rw [fl_append]; exact HN.out.2.1, Or.inr ⟨g', o', rfl, by have hx : g' = g ∨ wz.heap.size ≤ g' := HN.out.2.2.2.imp id (fun h => by simp at h; omega); omega⟩, rdr_mono (rdr_own (rdr_drew (rdr_alloc hR_wz _)) HN.out.2.2.1 (by omega)) (by omega), gb_own (gb_drew (gb_alloc (gb_trans (HP.out.2.2) hg_wz) _)) HN.out.2.2.1 (by omega)⟩
    · go_ret
      exact ⟨r0 :: L, _, 4, by simp [hLl], by first | (simp [hLl]; done) | (simp [hLl]; omega), by simp [hLl], ((HP.out.1).grown hg_wz hgR).pts, Or.inr ⟨_, _, rfl, by omega⟩, rdr_mono hR_wz (by omega), gb_trans (HP.out.2.2) hg_wz⟩
end Go.Proofs.Ytgncjpakclbegaa
namespace Go.Proofs.Ytgncjpakclbegaa
open Go.RowKit Poly
set_option linter.unusedVariables false

def waysP : List P2 := [(2, 0), (2, 1), (1, 2), (0, 2), (-1, 2), (-2, 1), (-2, 0), (-2, -1), (-1, -2), (0, -2), (1, -2), (2, -1)]
theorem waysP_at {j : Nat} (h : j < 12) : ∃ p : P2, waysP[j]? = some p ∧ -2 ≤ p.1 ∧ p.1 ≤ 2 ∧ -2 ≤ p.2 ∧ p.2 ≤ 2 := by
  have : ∀ j : Fin 12, ∃ p : P2, waysP[j.1]? = some p ∧ -2 ≤ p.1 ∧ p.1 ≤ 2 ∧ -2 ≤ p.2 ∧ p.2 ≤ 2 := by
    intro j
    match j with
    | 0 => exact ⟨_, rfl, by decide, by decide, by decide, by decide⟩
    | 1 => exact ⟨_, rfl, by decide, by decide, by decide, by decide⟩
    | 2 => exact ⟨_, rfl, by decide, by decide, by decide, by decide⟩
    | 3 => exact ⟨_, rfl, by decide, by decide, by decide, by decide⟩
    | 4 => exact ⟨_, rfl, by decide, by decide, by decide, by decide⟩
    | 5 => exact ⟨_, rfl, by decide, by decide, by decide, by decide⟩
    | 6 => exact ⟨_, rfl, by decide, by decide, by decide, by decide⟩
    | 7 => exact ⟨_, rfl, by decide, by decide, by decide, by decide⟩
    | 8 => exact ⟨_, rfl, by decide, by decide, by decide, by decide⟩
    | 9 => exact ⟨_, rfl, by decide, by decide, by decide, by decide⟩
    | 10 => exact ⟨_, rfl, by decide, by decide, by decide, by decide⟩
    | 11 => exact ⟨_, rfl, by decide, by decide, by decide, by decide⟩
  exact this ⟨j, h⟩
theorem scaled {m x : Int} (h0 : 0 ≤ m) (h1 : m < 3) (h2 : -2 ≤ x) (h3 : x ≤ 2) : -6 ≤ (1 + m) * x ∧ (1 + m) * x ≤ 6 := by
  have : m = 0 ∨ m = 1 ∨ m = 2 := by omega
  rcases this with rfl | rfl | rfl <;> omega

set_option maxHeartbeats 8000000 in
theorem star_any (k R : Nat) (w : World) (h : Rdr k w R) (hk : k ≤ 100000) :
    Calls Try.prog 102 #[.pointer (some ⟨R, 0, none⟩)] w (DPs (k + 24) R w) := by
  have hR := rdr_lt h
  go_enter Try.func102, Try.ntmps102
  go_upto_region 3 with fail
  obtain ⟨X, hX⟩ : ∃ X, X = w.heap.size := ⟨_, rfl⟩
  have hXR : X ≠ R := by omega
  rw [← hX]
  refine gen_world (fun W => Own W X 31 2 12 12 (fl waysP) ∧ Own W (X + 1) 31 2 0 0 (fl []) ∧ Rdr k W R ∧ w.grownBy W (some R)) ⟨?_, ?_, rdr_alloc (rdr_alloc h _) _, gb_alloc (gb_alloc (gb_refl _ _) _) _⟩ (fun wo hp => ?_)
  · rw [hX]
    exact Own.alloc (.of (Deep.blk_alloc_new _ _) (Nat.le_refl _) (by unfold maxLen; omega) rfl rfl rfl) _
  · have := Own.empty (w.alloc (.cells #[.int .i64 2, .int .i64 0, .int .i64 2, .int .i64 1, .int .i64 1, .int .i64 2, .int .i64 0, .int .i64 2, .int .i64 (-1), .int .i64 2, .int .i64 (-2), .int .i64 1, .int .i64 (-2), .int .i64 0, .int .i64 (-2), .int .i64 (-1), .int .i64 (-1), .int .i64 (-2), .int .i64 0, .int .i64 (-2), .int .i64 1, .int .i64 (-2), .int .i64 2, .int .i64 (-1)] 31)) 31 2
    simp at this
    rw [hX]
    exact this
  have HS := Lib.hid hp
  have hXw : w.heap.size ≤ X := by omega
  have hRX : R < X := by omega
  clear hp h hX
  go_wp2_with fail
  go_loopw [4, 5] (fun v i wr => ∃ (j g cap : Nat) (L : List P2), j ≤ 12 ∧ i = .int .i64 j ∧ v = .slice (some ⟨g, 0, none⟩) L.length cap ∧ L.length ≤ j ∧ X < g ∧ Own wr X 31 2 12 12 (fl waysP) ∧ Own wr g 31 2 L.length cap (fl L) ∧ Rdr (k + 2 * j) wr R ∧ w.grownBy wr (some R)) (fun _ i _ => 12 - (intOf i).toNat)
  case atStart => exact ⟨0, X + 1, 0, [], Nat.zero_le _, rfl, rfl, Nat.le_refl _, by omega, HS.out.1, HS.out.2.1, HS.out.2.2.1, HS.out.2.2.2⟩
  case round =>
    clear HS
    obtain ⟨j, g, cap, L, hj, rfl, rfl, hL, hg, hx, how, hrd, hgb⟩ := hrel
    have hlg := how.lt
    have hlx := hx.lt
    have hgR : g ≠ R := by omega
    have hsz := hgb.size
    have HO := Lib.hid (And.intro hx (And.intro how (And.intro hrd hgb)))
    by_cases hlt : j < 12
    · obtain ⟨p, hp, b0, b1, b2, b3⟩ := waysP_at hlt
      obtain ⟨z0, z1⟩ := fl_at hp
      have x0 := hx.cells z0
      have x1 := hx.cells z1
      clear hx how hgb z0 z1 hp
      go_upto_region 7 with ((go_at_call 60; (with_reducible refine (pick_any (k + 2 * j) R (3) _ ?_ (by omega) (by omega) (by omega)).mono ?_); (focus ((repeat (first | with_reducible assumption | (with_reducible refine rdr_drewN ?_ _) | (with_reducible refine rdr_drew ?_) | (with_reducible refine rdr_alloc ?_ _) | (with_reducible refine rdr_setCell ?_ (by first | omega | (simp <;> omega) | simp) _) | (with_reducible refine rdr_chain ?_ (by with_reducible assumption)))); done)); rintro e wb ⟨m_wb, hm0_wb, hm1_wb, rfl, hR_wb, hg_wb, hq_wb⟩; have hs_wb := Nat.le_of_eq hq_wb; have ht_wb := Nat.le_of_eq hq_wb.symm; (try simp at hs_wb); (try simp at ht_wb); clear hq_wb); obtain ⟨hcn, hfn⟩ := gcell hg_wb; have y0 := (hcn X _ hlx hXR).trans x0; have y1 := (hcn X _ hlx hXR).trans x1)
      · go_upto_region 8 with ((go_at_call 60; (with_reducible refine (pick_any (k + 2 * j) R (3) _ ?_ (by omega) (by omega) (by omega)).mono ?_); (focus ((repeat (first | with_reducible assumption | (with_reducible refine rdr_drewN ?_ _) | (with_reducible refine rdr_drew ?_) | (with_reducible refine rdr_alloc ?_ _) | (with_reducible refine rdr_setCell ?_ (by first | omega | (simp <;> omega) | simp) _) | (with_reducible refine rdr_chain ?_ (by with_reducible assumption)))); done)); rintro e wc ⟨m_wc, hm0_wc, hm1_wc, rfl, hR_wc, hg_wc, hq_wc⟩; have hs_wc := Nat.le_of_eq hq_wc; have ht_wc := Nat.le_of_eq hq_wc.symm; (try simp at hs_wc); (try simp at ht_wc); clear hq_wc); obtain ⟨hcn, hfn⟩ := gcell hg_wc; have y0 := (hcn X _ hlx hXR).trans x0; have y1 := (hcn X _ hlx hXR).trans x1)
        have HC : Hid (Own wc g 31 2 L.length cap (fl L) ∧ Own wc X 31 2 12 12 (fl waysP) ∧ w.grownBy wc (some R) ∧ Rdr (k + 2 * (j + 1)) wc R) := Lib.hid ⟨HO.out.2.1.grown hg_wc hgR, HO.out.1.grown hg_wc hXR, gb_trans HO.out.2.2.2 hg_wc, rdr_mono hR_wc (by omega)⟩
        have hsc0 := scaled hm0_wc hm1_wc b0 b1
        have hsc1 := scaled hm0_wc hm1_wc b2 b3
        have hrc : R < wc.heap.size := by omega
        have hgc : g < wc.heap.size := by omega
        have hXc : X < wc.heap.size := by omega
        go_region_held3 (fun W => W.cell? ⟨X, j * 2, none⟩ = some (.int .i64 p.1) ∧ W.cell? ⟨X, j * 2 + 1, none⟩ = some (.int .i64 p.2)) (first | (go_keep; done) | (rw [hgr.cell_far _ (by simp; omega) (by simp; omega), hgr.cell_far _ (by simp; omega) (by simp; omega)]; exact ⟨cell_adD _ y0, cell_adD _ y1⟩))
          ((refine step_app _ (by rfl) _ _ _ (by rfl) 31 _ 2 16 Try.underlying23 info_point rfl (by decide) (by decide) g L.length cap (fl L) (by rfl) (HC.out.1.alloc _) ⟨wc.heap.size, 0, none⟩ 1 1 [IntKind.i64.wrap ((1 + m_wc) * p.1), IntKind.i64.wrap ((1 + m_wc) * p.2)] (by rfl) rfl (two_cellsD _ _ _ _) (by decide) (by omega) ?_; intro g' cap' w' hown hgr hloc hlt1))
        have hs1 := hgr.size
        have hgl : w.heap.size ≤ g' ∧ X < g' := by
          rcases hloc with e | e
          · omega
          · simp at e
            omega
        have HN : Hid (Own w' g' 31 2 (L ++ [(IntKind.i64.wrap ((1 + m_wc) * p.1), IntKind.i64.wrap ((1 + m_wc) * p.2))]).length cap' (fl (L ++ [(IntKind.i64.wrap ((1 + m_wc) * p.1), IntKind.i64.wrap ((1 + m_wc) * p.2))])) ∧ Own w' X 31 2 12 12 (fl waysP) ∧ Rdr (k + 2 * (j + 1)) w' R ∧ w.grownBy w' (some R)) :=
          Lib.hid ⟨by rw [fl_append, List.length_append]; exact hown, Own.grown (g' := g) (own_drD (HC.out.2.1.alloc _)) hgr (by omega), rdr_own (rdr_drew (rdr_alloc HC.out.2.2.2 _)) hgr (by omega), gb_own (gb_drew (gb_alloc HC.out.2.2.1 _)) hgr (by omega)⟩
        clear hown hgr hloc
        go_wp2_with fail
        go_roundw
        case rel => exact ⟨j + 1, g', cap', _, by omega, by go_num, by simp, by simp; omega, hgl.2, HN.out.2.1, HN.out.1, HN.out.2.2.1, HN.out.2.2.2⟩
        case measure => simp [intOf]; omega
      · go_upto_region 8 with ((go_at_call 60; (with_reducible refine (pick_any (k + 2 * j + 1) R (3) _ ?_ (by omega) (by omega) (by omega)).mono ?_); (focus ((repeat (first | with_reducible assumption | (with_reducible refine rdr_drewN ?_ _) | (with_reducible refine rdr_drew ?_) | (with_reducible refine rdr_alloc ?_ _) | (with_reducible refine rdr_setCell ?_ (by first | omega | (simp <;> omega) | simp) _) | (with_reducible refine rdr_chain ?_ (by with_reducible assumption)))); done)); rintro e wc ⟨m_wc, hm0_wc, hm1_wc, rfl, hR_wc, hg_wc, hq_wc⟩; have hs_wc := Nat.le_of_eq hq_wc; have ht_wc := Nat.le_of_eq hq_wc.symm; (try simp at hs_wc); (try simp at ht_wc); clear hq_wc); obtain ⟨hcn', hfn'⟩ := gcell hg_wc; have y0 := (hcn' X _ (by omega) hXR).trans y0; have y1 := (hcn' X _ (by omega) hXR).trans y1)
        have HC : Hid (Own wc g 31 2 L.length cap (fl L) ∧ Own wc X 31 2 12 12 (fl waysP) ∧ w.grownBy wc (some R) ∧ Rdr (k + 2 * (j + 1)) wc R) := Lib.hid ⟨(HO.out.2.1.grown hg_wb hgR).grown hg_wc hgR, (HO.out.1.grown hg_wb hXR).grown hg_wc hXR, gb_trans (gb_trans HO.out.2.2.2 hg_wb) hg_wc, rdr_mono hR_wc (by omega)⟩
        have hsc0 := scaled hm0_wc hm1_wc b0 b1
        have hsc1 := scaled hm0_wc hm1_wc b2 b3
        have hrc : R < wc.heap.size := by omega
        have hgc : g < wc.heap.size := by omega
        have hXc : X < wc.heap.size := by omega
        go_region_held3 (fun W => W.cell? ⟨X, j * 2, none⟩ = some (.int .i64 p.1) ∧ W.cell? ⟨X, j * 2 + 1, none⟩ = some (.int .i64 p.2)) (first | (go_keep; done) | (rw [hgr.cell_far _ (by simp; omega) (by simp; omega), hgr.cell_far _ (by simp; omega) (by simp; omega)]; exact ⟨cell_adD _ y0, cell_adD _ y1⟩))
          ((refine step_app _ (by rfl) _ _ _ (by rfl) 31 _ 2 16 Try.underlying23 info_point rfl (by decide) (by decide) g L.length cap (fl L) (by rfl) (HC.out.1.alloc _) ⟨wc.heap.size, 0, none⟩ 1 1 [IntKind.i64.wrap ((1 + m_wc) * p.1), IntKind.i64.wrap ((1 + m_wc) * p.2)] (by rfl) rfl (two_cellsD _ _ _ _) (by decide) (by omega) ?_; intro g' cap' w' hown hgr hloc hlt1))
        have hs1 := hgr.size
        have hgl : w.heap.size ≤ g' ∧ X < g' := by
          rcases hloc with e | e
          · omega
          · simp at e
            omega
        have HN : Hid (Own w' g' 31 2 (L ++ [(IntKind.i64.wrap ((1 + m_wc) * p.1), IntKind.i64.wrap ((1 + m_wc) * p.2))]).length cap' (fl (L ++ [(IntKind.i64.wrap ((1 + m_wc) * p.1), IntKind.i64.wrap ((1 + m_wc) * p.2))])) ∧ Own w' X 31 2 12 12 (fl waysP) ∧ Rdr (k + 2 * (j + 1)) w' R ∧ w.grownBy w' (some R)) :=
          Lib.hid ⟨by rw [fl_append, List.length_append]; exact hown, Own.grown (g' := g) (own_drD (HC.out.2.1.alloc _)) hgr (by omega), rdr_own (rdr_drew (rdr_alloc HC.out.2.2.2 _)) hgr (by omega), gb_own (gb_drew (gb_alloc HC.out.2.2.1 _)) hgr (by omega)⟩
        clear hown hgr hloc
        go_wp2_with fail
        go_roundw
        case rel => exact ⟨j + 1, g', cap', _, by omega, by go_num, by simp, by simp; omega, hgl.2, HN.out.2.1, HN.out.1, HN.out.2.2.1, HN.out.2.2.2⟩
        case measure => simp [intOf]; omega
      · go_roundw
        case rel => exact ⟨j + 1, g, cap, L, by omega, by go_num, rfl, by omega, hg, HO.out.1.grown hg_wb hXR, HO.out.2.1.grown hg_wb hgR, rdr_mono hR_wb (by omega), gb_trans HO.out.2.2.2 hg_wb⟩
        case measure => simp [intOf]; omega
    · have e : j = 12 := by omega
      subst e
      go_wp2_with fail
      go_ret
      exact ⟨L, _, cap, rfl, by obtain ⟨_, _, h1, _⟩ := HO.out.2.1.body; exact h1, hL, HO.out.2.1.pts, Or.inr ⟨_, _, rfl, by omega⟩, HO.out.2.2.1, HO.out.2.2.2⟩
end Go.Proofs.Ytgncjpakclbegaa
namespace Go.Proofs.Ytgncjpakclbegaa
open Go.RowKit Poly
set_option linter.unusedVariables false

theorem dps_keep {R : Nat} {w0 w w' : World} {p : Option Addr} {L : List P2} (hne : L = [] ∨ ∃ B o, p = some ⟨B, o, none⟩ ∧ w0.heap.size ≤ B) (hR : R < w0.heap.size) (h : Ints w p (fl L)) (hg : w.grownBy w' (some R)) : Ints w' p (fl L) := by
  rcases hne with rfl | ⟨B, o, rfl, hB⟩
  · exact .inl rfl
  · exact h.grown hg (fun o e => by injection e with e1; injection e1 with e2; omega)
theorem dps_le {w0 w : World} {p : Option Addr} {L : List P2} (hne : L = [] ∨ ∃ B o, p = some ⟨B, o, none⟩ ∧ w0.heap.size ≤ B) (h : w.heap.size ≤ w0.heap.size) : L = [] ∨ ∃ B o, p = some ⟨B, o, none⟩ ∧ w.heap.size ≤ B :=
  hne.imp id (fun ⟨B, o, e, h'⟩ => ⟨B, o, e, Nat.le_trans h h'⟩)
theorem dps_mono {k k' R : Nat} {w w' : World} {e : Ending} (h : DPs k R w e w') (hk : k ≤ k') : DPs k' R w e w' := by
  obtain ⟨L, p, c, h1, h2, h3, h4, h5, h6, h7⟩ := h
  exact ⟨L, p, c, h1, h2, h3, h4, h5, rdr_mono h6 hk, h7⟩

set_option maxHeartbeats 8000000 in
theorem poly_any (k R : Nat) (w : World) (h : Rdr k w R) (hk : k ≤ 50000) :
    Calls Try.prog 59 #[.pointer (some ⟨R, 0, none⟩)] w (DPs (k + 32) R w) := by
  have hR := rdr_lt h
  go_enter Try.func59, Try.ntmps59
  go_upto_region 3 with (first | (go_at_call 60; (with_reducible refine (pick_any (k) R (8) _ ?_ (by omega) (by omega) (by omega)).mono ?_); (focus ((repeat (first | with_reducible assumption | (with_reducible refine rdr_drewN ?_ _) | (with_reducible refine rdr_drew ?_) | (with_reducible refine rdr_alloc ?_ _) | (with_reducible refine rdr_setCell ?_ (by first | omega | (simp <;> omega) | simp) _) | (with_reducible refine rdr_chain ?_ (by with_reducible assumption)))); done)); rintro e wa ⟨m_wa, hm0_wa, hm1_wa, rfl, hR_wa, hg_wa, hq_wa⟩; have hs_wa := Nat.le_of_eq hq_wa; have ht_wa := Nat.le_of_eq hq_wa.symm; (try simp at hs_wa); (try simp at ht_wa); clear hq_wa) | (go_at_call 76; (with_reducible refine (box_any (k + 1) R _ ?_ (by omega)).mono ?_); (focus (with_reducible assumption)); rintro e wb ⟨L, p, c, rfl, hc, hl, hi, hne, hrd, hgb⟩) | (go_at_call 102; (with_reducible refine (star_any (k + 1) R _ ?_ (by omega)).mono ?_); (focus (with_reducible assumption)); rintro e wb ⟨L, p, c, rfl, hc, hl, hi, hne, hrd, hgb⟩) | (go_at_call 60; (with_reducible refine (pick_any (k + 1 + 24) R (5) _ ?_ (by omega) (by omega) (by omega)).mono ?_); (focus ((repeat (first | with_reducible assumption | (with_reducible refine rdr_drewN ?_ _) | (with_reducible refine rdr_drew ?_) | (with_reducible refine rdr_alloc ?_ _) | (with_reducible refine rdr_setCell ?_ (by first | omega | (simp <;> omega) | simp) _) | (with_reducible refine rdr_chain ?_ (by with_reducible assumption)))); done)); rintro e wc ⟨m_wc, hm0_wc, hm1_wc, rfl, hR_wc, hg_wc, hq_wc⟩; have hs_wc := Nat.le_of_eq hq_wc; have ht_wc := Nat.le_of_eq hq_wc.symm; (try simp at hs_wc); (try simp at ht_wc); clear hq_wc))
  · go_wp2_with ((go_at_call 60; (with_reducible refine (pick_any (k + 1) R (6) _ ?_ (by omega) (by omega) (by omega)).mono ?_); (focus ((repeat (first | with_reducible assumption | (with_reducible refine rdr_drewN ?_ _) | (with_reducible refine rdr_drew ?_) | (with_reducible refine rdr_alloc ?_ _) | (with_reducible refine rdr_setCell ?_ (by first | omega | (simp <;> omega) | simp) _) | (with_reducible refine rdr_chain ?_ (by with_reducible assumption)))); done)); rintro e wb ⟨m_wb, hm0_wb, hm1_wb, rfl, hR_wb, hg_wb, hq_wb⟩; have hs_wb := Nat.le_of_eq hq_wb; have ht_wb := Nat.le_of_eq hq_wb.symm; (try simp at hs_wb); (try simp at ht_wb); clear hq_wb))
    obtain ⟨M, hM⟩ : ∃ M : Nat, m_wb = (M : Int) := ⟨m_wb.toNat, by omega⟩
    subst hM
    have hM5 : M ≤ 5 := by omega
    have HR := Lib.hid (And.intro hR_wb (And.intro (gb_trans (gb_alloc hg_wa _) hg_wb) ((Own.empty wa 31 2).grown hg_wb (by omega))))
    have hRa : R < wa.heap.size := by omega
    clear hR_wb hg_wb hR_wa hg_wa h hm0_wb hm1_wb
    go_loopw [3, 5] (fun v i wr => ∃ (q g cap : Nat) (L : List P2), q ≤ M ∧ i = .int .i64 q ∧ v = .slice (some ⟨g, 0, none⟩) L.length cap ∧ L.length ≤ q ∧ R < g ∧ w.heap.size ≤ g ∧ Own wr g 31 2 L.length cap (fl L) ∧ Rdr (k + 2 + 5 * q) wr R ∧ w.grownBy wr (some R)) (fun _ i _ => M - (intOf i).toNat)
    case atStart => exact ⟨0, wa.heap.size, 0, [], Nat.zero_le _, rfl, rfl, Nat.le_refl _, by omega, by omega, HR.out.2.2, rdr_mono HR.out.1 (by omega), HR.out.2.1⟩
    case round =>
      clear HR
      obtain ⟨q, g, cap, L, hq, rfl, rfl, hL, hRg, hgw, how, hrd, hgb⟩ := hrel
      have hlg := how.lt
      have hsz := hgb.size
      have HO := Lib.hid (And.intro how hgb)
      have hgR : g ≠ R := by omega
      clear how hgb
      by_cases hlt : q < M
      · go_wp2_with (first | (go_at_call 101; (with_reducible refine (dpt_any (k + 2 + 5 * q) R _ hrd (by omega)).mono ?_); rintro e wc ⟨a, b, a0, a1, b0, b1, rfl, hrc, hgc⟩; have hsc := hgc.size) | (at_builtin; refine wp_append _ rfl _ _ 23 rfl 31 _ 2 16 Try.underlying23 info_point rfl (by decide) (by decide) g L.length cap (fl L) rfl ((HO.out.1.grown hgc hgR).alloc _) _ 1 1 [a, b] rfl rfl (two_cellsD _ _ _ _) (by omega) ?_; intro g' cap' w' hown hgr hloc hsz'; have HN := Lib.hid (And.intro hown (And.intro hgr hloc)); clear hown hgr hloc hsz'))
        go_roundw
        case rel =>
          have hx : g' = g ∨ wc.heap.size ≤ g' := HN.out.2.2.imp id (fun h => by simp at h; omega)
          exact ⟨q + 1, g', cap', L ++ [(a, b)], by omega, by go_num, by simp, by simp; omega, by omega, by omega, by rw [fl_append, List.length_append]; exact HN.out.1, rdr_mono (rdr_own (rdr_alloc hrc _) HN.out.2.1 hRg) (by omega), gb_own (gb_alloc (gb_trans HO.out.2 hgc) _) HN.out.2.1 (by omega)⟩
        case measure => simp [intOf]; omega
      · have e : q = M := by omega
        subst e
        go_wp2_with fail
        go_ret
        exact ⟨L, _, cap, rfl, by obtain ⟨_, _, h1, _⟩ := HO.out.1.body; exact h1, by omega, HO.out.1.pts, Or.inr ⟨_, _, rfl, by omega⟩, rdr_mono hrd (by omega), HO.out.2⟩
  · go_ret
    exact ⟨L, p, c, rfl, hc, hl, hi, dps_le hne (by omega), rdr_mono hrd (by omega), gb_trans hg_wa hgb⟩
  · go_ret
    exact ⟨L, p, c, rfl, hc, hl, hi, dps_le hne (by omega), rdr_mono hrd (by omega), gb_trans hg_wa hgb⟩
  · go_ret
    exact ⟨L, p, c, rfl, hc, hl, hi, dps_le hne (by omega), rdr_mono hrd (by omega), gb_trans hg_wa hgb⟩
  · have hRc := rdr_lt hR_wc
    have hsb := hgb.size
    have hiL : Ints wc p (fl L) := dps_keep hne (by omega) hi hg_wc
    have HH := Lib.hid (gb_trans (gb_trans hg_wa hgb) hg_wc)
    cases hok : okP L
    · go_wp2_with (go_at_call 103; (with_reducible refine (sPolyBack_no hiL (by omega) hok).mono ?_); rintro e wd ⟨g, rfl, hg, hb⟩)
      go_ret
      exact ⟨[], _, 0, rfl, Nat.le_refl _, by simp, .inl rfl, .inl rfl, rdr_mono (rdr_chain hR_wc hb) (by omega), gb_below HH.out hb⟩
    · go_wp2_with (go_at_call 103; (with_reducible refine (sPolyBack_yes hiL (by omega) hok).mono ?_); rintro e wd ⟨g, cap, rfl, hg, ho, hb⟩)
      go_ret
      exact ⟨backL L, _, cap, by rw [back_len]; rfl, by rw [back_len]; obtain ⟨_, _, h1, _⟩ := ho.body; exact h1, by rw [back_len]; exact hl, ho.pts, Or.inr ⟨_, _, rfl, by omega⟩, rdr_mono (rdr_chain hR_wc hb) (by omega), gb_below HH.out hb⟩
  · go_ret
    exact ⟨L, p, c, rfl, hc, hl, dps_keep hne (by omega) hi hg_wc, dps_le hne (by omega), rdr_mono hR_wc (by omega), gb_trans (gb_trans hg_wa hgb) hg_wc⟩
end Go.Proofs.Ytgncjpakclbegaa
namespace Go.Proofs.Ytgncjpakclbegaa
open Go.RowKit Poly
set_option linter.unusedVariables false

/-- a drawn list of points, by new memory alone -/
def DPb (w : World) (e : Ending) (w' : World) : Prop :=
  ∃ (L : List P2) (p : Option Addr) (c : Nat), e = .returned (.slice p L.length c) ∧ L.length ≤ c ∧ L.length ≤ 12 ∧ Ints w' p (fl L) ∧ Below w.heap.size w w'

theorem fl_drop : ∀ (k : Nat) (L : List P2), fl (L.drop k) = (fl L).drop (k * 2)
  | 0, L => by simp
  | k + 1, [] => by simp [fl]
  | k + 1, q :: l => by
    rw [show (k + 1) * 2 = k * 2 + 1 + 1 by omega]
    simp only [fl, List.drop_succ_cons]
    exact fl_drop k l
theorem fl_take : ∀ (k : Nat) (L : List P2), fl (L.take k) = (fl L).take (k * 2)
  | 0, L => by simp [fl]
  | k + 1, [] => by simp [fl]
  | k + 1, q :: l => by
    rw [show (k + 1) * 2 = k * 2 + 1 + 1 by omega]
    simp only [fl, List.take_succ_cons]
    rw [fl_take k l]

theorem pts_cell {w : World} {B o : Nat} {xs : List Int} (h : Ints w (some ⟨B, o, none⟩) xs) {i : Nat} {z : Int} (hi : xs[i]? = some z) : w.cell? ⟨B, o + i, none⟩ = some (.int .i64 z) := by
  rcases h with h | ⟨b, q, e, hb, hc⟩
  · subst h; simp at hi
  · injection e with e
    injection e with e1 e2
    subst e1 e2
    exact hc _ _ hi
set_option maxHeartbeats 8000000 in
theorem begun_is (w : World) (B o n c k : Nat) (L : List P2) (hI : Ints w (some ⟨B, o, none⟩) (fl L)) (hn : Hid (L.length = n)) (hk : k < n) (hc : n ≤ c) (h12 : n ≤ 12) :
    Calls Try.prog 22 #[.slice (some ⟨B, o, none⟩) n c, .int .i64 k] w fun e w' => ∃ g cap : Nat, e = .returned (.slice (some ⟨g, 0, none⟩) n cap) ∧ w.heap.size ≤ g ∧ Own w' g 31 2 n cap (fl (begL L k)) ∧ Below w.heap.size w w' := by
  have HI := Lib.hid hI
  clear hI
  have hkc : k < c := by omega
  have hkn : k ≤ n := by omega
  have hck : ¬ c = k := by omega
  have hkc' : k ≤ c := by omega
  have hc0 : ¬ c = 0 := by omega
  go_enter Try.func22, Try.ntmps22
  go_upto_region 1 with fail
  go_region_law (first
    | (refine step_app0 _ (by rfl) _ _ _ (by rfl) 31 _ 2 16 Try.underlying23 info_point rfl (by decide) (by decide) w.heap.size 0 0 [] (by rfl) (Own.empty w _ 2) ⟨B, o + k * 2, none⟩ (n - k) (c - k) (fl (L.drop k)) (by rfl) (by rw [fl_len, List.length_drop, hn.out]) (fun j z hj => by rw [Go.WideShapes.add_plain]; rw [fl_drop, List.getElem?_drop] at hj; have := pts_cell HI.out hj; rw [Nat.add_assoc]; exact cell_adD _ this) (by omega) ?_; intro g1 d1 w1 hO1 hg1 hl1 hlt1; rw [Nat.zero_add, List.nil_append] at hO1)
    | (refine step_app0 _ (by rfl) _ _ _ (by rfl) 31 _ 2 16 Try.underlying23 info_point rfl (by decide) (by decide) g1 (n - k) d1 _ (by rfl) hO1 ⟨B, o, none⟩ k c (fl (L.take k)) (by rfl) (by rw [fl_len, List.length_take, hn.out]; omega) (fun j z hj => by rw [Go.WideShapes.add_plain]; rw [fl_take, List.getElem?_take] at hj; split at hj; (have h1 := cell_adD (.cells #[] 31) (pts_cell HI.out hj); have hB := World.block_lt_of_cell? w _ (pts_cell HI.out hj); have h2 := hg1.cell_far (a := ⟨B, o + j, none⟩) (by simp; simp at hB; omega) (by simp at hB ⊢; omega); exact h2.trans h1); cases hj) (by omega) ?_; intro g2 d2 w2 hO2 hg2 hl2 hlt2))
  have hs1 := hg1.size
  simp at hs1
  have hg1w : w.heap.size ≤ g1 := by
    rcases hl1 with e | e
    · omega
    · simp at e; omega
  have hg2w : w.heap.size ≤ g2 := by
    rcases hl2 with e | e <;> omega
  have hb1 : Below w.heap.size w (w.alloc (.cells #[] 31)).drew := below_drew ((Below.refl _ _).alloc (Nat.le_refl _) _)
  have hb2 := below_gb (below_gb hb1 hg1 (Nat.le_refl _) (by simp)) hg2 hg1w (by omega)
  have HN : Hid (Own w2 g2 31 2 n d2 (fl (begL L k)) ∧ Below w.heap.size w w2) := Lib.hid ⟨by unfold begL; rw [fl_append]; rw [Nat.sub_add_cancel hkn] at hO2; exact hO2, hb2⟩
  clear hO1 hg1 hl1 hO2 hg2 hl2 hb1 hb2
  go_wp2_with fail
  refine bodyPost_ret (v := .slice (some ⟨g2, 0, none⟩) n d2) (by simp [results, Try.results22, go_sem]) rfl ⟨g2, d2, rfl, hg2w, HN.out.1, HN.out.2⟩

theorem rot_take {L : List P2} {q : Nat} {p : P2} (h : L[q]? = some p) : rotL (L.take (q + 1)) = rotL (L.take q) ++ [rotP p] := by
  unfold rotL
  rw [List.take_add_one, h]
  simp
set_option maxHeartbeats 8000000 in
theorem turned_is (w : World) (B o n c : Nat) (L : List P2) (hI : Ints w (some ⟨B, o, none⟩) (fl L)) (hn : Hid (L.length = n)) (hv : Hid (okP L = true)) (h12 : n ≤ 12) (hBw : B < w.heap.size) :
    Calls Try.prog 23 #[.slice (some ⟨B, o, none⟩) n c] w fun e w' => ∃ g cap : Nat, e = .returned (.slice (some ⟨g, 0, none⟩) n cap) ∧ w.heap.size ≤ g ∧ Own w' g 31 2 n cap (fl (rotL L)) ∧ Below w.heap.size w w' := by
  have HI := Lib.hid hI
  clear hI
  go_enter Try.func23, Try.ntmps23
  go_wp2_with fail
  have HE := Lib.hid (Own.empty w 31 2)
  have HB0 : Hid (Below w.heap.size w (w.alloc (.cells #[] 31))) := Lib.hid ((Below.refl _ _).alloc (Nat.le_refl _) _)
  go_loopw [3, 4] (fun v i wr => ∃ q g cap : Nat, q ≤ n ∧ i = .int .i64 q ∧ v = .slice (some ⟨g, 0, none⟩) q cap ∧ w.heap.size ≤ g ∧ Own wr g 31 2 q cap (fl (rotL (L.take q))) ∧ Below w.heap.size w wr) (fun _ i _ => n - (intOf i).toNat)
  case atStart => exact ⟨0, w.heap.size, 0, Nat.zero_le _, rfl, rfl, Nat.le_refl _, HE.out, HB0.out⟩
  case round =>
    clear HE HB0
    obtain ⟨q, g, cap, hq, rfl, rfl, hg, how, hb⟩ := hrel
    have hlg := how.lt
    have hsz := hb.size
    have HO := Lib.hid (And.intro how hb)
    by_cases hlt : q < n
    · obtain ⟨p, hp⟩ : ∃ p, L[q]? = some p := ⟨_, List.getElem?_eq_getElem (by rw [hn.out]; exact hlt)⟩
      obtain ⟨z0, z1⟩ := fl_at hp
      have hbB := hb.cell (p := ⟨B, o + q * 2, none⟩) hBw
      have y0 := hbB.trans (pts_cell HI.out z0)
      have hbB1 := hb.cell (p := ⟨B, o + (q * 2 + 1), none⟩) hBw
      have y1 := hbB1.trans (pts_cell HI.out z1)
      rw [← Nat.add_assoc] at y1
      have hpv : pvP p = true := by
        have := okP_at hv.out q
        have e := cy_lt (L := L) (i := q) (by rw [hn.out]; exact hlt)
        rw [hp] at e
        injection e with e
        rw [e]
        exact this
      have hpb := pvP_true hpv
      have HP := Lib.hid hp
      have hBr : B < wr.heap.size := by omega
      have hBg : B ≠ g := by omega
      clear how hb z0 z1 hbB hbB1 hp hpv
      go_upto_region 5 with fail
      go_region_held3 (fun W => W.cell? ⟨B, o + q * 2, none⟩ = some (.int .i64 p.1) ∧ W.cell? ⟨B, o + q * 2 + 1, none⟩ = some (.int .i64 p.2)) (first | (go_keep; done) | (rw [hgr.cell_far _ (by simp; omega) (by simp; omega), hgr.cell_far _ (by simp; omega) (by simp; omega)]; exact ⟨cell_adD _ y0, cell_adD _ y1⟩))
        ((refine step_app _ (by rfl) _ _ _ (by rfl) 31 _ 2 16 Try.underlying23 info_point rfl (by decide) (by decide) g q cap _ (by rfl) (HO.out.1.alloc _) ⟨wr.heap.size, 0, none⟩ 1 1 [IntKind.i64.wrap (-p.2), p.1] (by rfl) rfl (two_cellsD _ _ _ _) (by decide) (by omega) ?_; intro g' cap' w' hown hgr hloc hlt1))
      have hwr : IntKind.i64.wrap (-p.2) = 0 - p.2 := by rw [IntKind.wrap_i64]; omega
      have hgl : w.heap.size ≤ g' := by
        rcases hloc with e | e
        · omega
        · simp at e; omega
      rw [hwr] at hown
      have HN : Hid (Own w' g' 31 2 (q + 1) cap' (fl (rotL (L.take (q + 1)))) ∧ Below w.heap.size w w') :=
        Lib.hid ⟨by rw [rot_take HP.out, fl_append]; exact hown, below_gb (below_drew (HO.out.2.alloc hsz _)) hgr hg (by simp; omega)⟩
      clear hown hgr hloc
      go_wp2_with fail
      go_roundw
      case rel => exact ⟨q + 1, g', cap', by omega, by go_num, rfl, hgl, HN.out.1, HN.out.2⟩
      case measure => simp [intOf]; omega
    · have e : q = n := by omega
      subst e
      go_wp2_with fail
      go_ret
      exact ⟨g, cap, rfl, hg, by have := HO.out.1; rw [List.take_of_length_le (Nat.le_of_eq hn.out)] at this; exact this, HO.out.2⟩
end Go.Proofs.Ytgncjpakclbegaa
