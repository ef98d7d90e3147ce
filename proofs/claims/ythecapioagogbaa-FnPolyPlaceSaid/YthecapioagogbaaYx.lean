/-
  The program's list of a polygon's corners.
-/
import Derived.Test.YthecapioagogbaaYl
import Derived.Test.YthecapioagogbaaYp
import Derived.StillTail
import Derived.RegionTactic
namespace Go.Proofs.Ythecapioagogbaa
open Go.RowKit Go.Shelf Poly
set_option linter.unusedVariables false
attribute [local go_sem] Oper.semAt_some

theorem two_cells (V : World) (x y : Int) (T : TypeId) : ∀ (j : Nat) (z : Int), [x, y][j]? = some z → (V.alloc (.cells #[.int .i64 x, .int .i64 y] T)).cell? ((⟨V.heap.size, 0, none⟩ : Addr).add j) = some (.int .i64 z) := by
  intro j z hj
  have hb : (V.alloc (.cells #[.int .i64 x, .int .i64 y] T)).heap[V.heap.size]? = some (.cells #[.int .i64 x, .int .i64 y] T (0, 0)) := Deep.blk_alloc_new _ _
  match j, hj with
  | 0, hj => simp at hj; subst hj; show World.cell? _ ⟨V.heap.size, 0, none⟩ = _; unfold World.cell?; rw [hb]; rfl
  | 1, hj => simp at hj; subst hj; show World.cell? _ ⟨V.heap.size, 1, none⟩ = _; unfold World.cell?; rw [hb]; rfl
  | j + 2, hj => simp at hj
theorem any_seq {P : Program} {ops : Array Oper} {Q' : Exit → Act → World → Prop} {l : List Oper} {k : Nat} {listed : Array Bool} {a : Act} {w : World} (hl : ops.toList.drop k = l) (hB : Region.seqB .any ops l.length k listed = true) (h : wpList P ops Q' l a w) : wpAny P .any ops Q' l.length listed a w :=
  wpAny_of_seq l k listed a w (fun j => by rw [← hl, List.getElem?_drop]; simp) hB h
/-- the list so far -/
def LstP (lo : Nat) (W : World) (v : Value) (xs : List P2) : Prop :=
  (xs = [] ∧ v = .slice none 0 0) ∨ ∃ g cap : Nat, v = .slice (some ⟨g, 0, none⟩) xs.length cap ∧ lo ≤ g ∧ Own W g 31 2 xs.length cap (fl xs)
theorem LstP.own {lo : Nat} {W W' : World} {v : Value} {xs : List P2} {row : Option Nat} (h : LstP lo W v xs) (hg : W.grownBy W' row) (hr : ∀ r, row = some r → ∃ o : Obj, W.heap[r]? = some o ∧ o.isCells = false) : LstP lo W' v xs := by
  rcases h with h | ⟨g, cap, h1, h2, h3⟩
  · exact .inl h
  · obtain ⟨cur, hb, hrest⟩ := h3.body
    exact .inr ⟨g, cap, h1, h2, h3.block (grownBy_keeps_cells hg hr hb rfl)⟩
theorem Hold.grow {w : World} {n₀ : Nat} {A : Nat → Nat} {L : List P2} {m g : Nat} {W W' : World} (h : Hold w n₀ A L m W) (hn : n₀ ≤ w.heap.size) (hm : w.heap.size ≤ m) (hg : W.grownBy W' (some g)) (hmg : m ≤ g) : Hold w n₀ A L m W' :=
  ⟨h.ring.below ((Below.refl n₀ W).grown hg (by have := h.size; omega) (fun k e => by cases e; omega)), h.below.grown hg (by have := h.size; omega) (fun k e => by cases e; omega), Nat.le_trans h.size hg.size⟩
theorem Kp2.grow {m Bn g : Nat} {W W' : World} (hg : W.grownBy W' (some g)) (hm : m ≤ W.heap.size) (hB : Bn < W.heap.size) (hmg : m ≤ g) (hne : Bn ≠ g) : Kp2 m Bn W W' :=
  ⟨(Below.refl m W).grown hg hm (fun k e => by cases e; exact hmg), hg.block Bn hB (by simpa using hne)⟩
set_option maxRecDepth 100000 in
set_option maxHeartbeats 4000000 in
theorem iPoints {n₀ : Nat} {A : Nat → Nat} {L : List P2} {w : World} (hR : RingB n₀ A L w) (hn : n₀ ≤ w.heap.size) (hok : okP L = true) :
    Calls Try.prog 51 #[.agg #[.pointer (some ⟨A 0, 0, none⟩)]] w fun e w' => ∃ g cap : Nat, e = .returned (.slice (some ⟨g, 0, none⟩) L.length cap) ∧ w.heap.size ≤ g ∧ Own w' g 31 2 L.length cap (fl L) ∧ Below w.heap.size w w' := by
  refine (callsIn_wide (n := 9)).1 ?_
  have HR := Lib.hid (And.intro hR hok)
  have hl := okP_len hok
  clear hR hok
  refine callsIn_of_wp_marks Try.func51 rfl trivial ?_ rfl
  simp only [Try.ntmps51, List.size_toArray, List.length_cons, List.length_nil, Nat.reduceAdd, Nat.reduceSub, Array.replicate_succ, Array.replicate_zero, List.push_toArray, List.append_toArray, List.nil_append, List.cons_append]
  gi_wp2
  refine ⟨by simp [Fence.wide], ?_⟩
  refine ((callsIn_wide.2 (iCorners _ _)).mono ?_)
  rintro e w' ⟨rfl, hw'⟩
  obtain ⟨w3, hw3⟩ : ∃ W, W = w' := ⟨_, rfl⟩
  rw [← hw3] at hw' ⊢
  have hsz : w3.heap.size = w.heap.size + 3 := by rw [hw']; simp
  have hb3 : Below w.heap.size w w3 := by
    rw [hw']
    exact (((Below.refl _ w).alloc (Nat.le_refl _) _).alloc (by simp) _).alloc (by simp; omega) _
  have y1 : w3.cell? ⟨w.heap.size + 1, 0, none⟩ = some (.slice none 0 0) := by rw [hw']; simp [go_sem]
  have y2 : w3.cell? ⟨w.heap.size + 1 + 1, 0, none⟩ = some (.pointer (some ⟨A 0, 0, none⟩)) := by rw [hw']; simp [go_sem]
  have f1 : w3.frozen? ⟨w.heap.size + 1, 0, none⟩ = false := by rw [hw']; simp [go_sem]
  clear hw' hw3
  have hgive := corners_stops 8 (by decide) (w.heap.size + 1 + 1) n₀ A L (by omega) w3 (by omega) (by omega) y2 (HR.out.1.below (hb3.mono hn))
  gi_wp2
  refine wpIn_rangeFunc_ownF (F := Fence.wide) rfl (by decide) (gf := 85) (lb := #[.pointer (some ⟨w.heap.size + 1 + 1, 0, none⟩)]) rfl trivial (enters_of Try.func85 (by kernel_rfl) rfl) hgive
    (fun h k => h.t k) (Kp2.b (by omega) (by omega)) (Below.refl _ _) (fun _ => rfl)
    (fun pre W => (∃ v, W.cell? ⟨w.heap.size + 1, 0, none⟩ = some v ∧ LstP w3.heap.size W v (pre.map (cy L))) ∧ W.frozen? ⟨w.heap.size + 1, 0, none⟩ = false ∧ Hold w n₀ A L w3.heap.size W)
    (fun _ _ _ => False)
    (fun s W W' row hs hg hr => by
      obtain ⟨⟨v, hv1, hv2⟩, hs2, hs3⟩ := hs
      exact ⟨⟨v, cell_kept hv1 hg (fun r e => (hr r e).2), hv2.own hg (fun r e => (hr r e).2)⟩, (frozen_kept hv1 hg (fun r e => (hr r e).2)).trans hs2, hs3.own (by omega) hg hr⟩)
    (fun _ _ _ _ _ hs _ _ => hs)
    ⟨⟨_, y1, .inl ⟨rfl, rfl⟩⟩, f1, HR.out.1.below (hb3.mono hn), hb3, Nat.le_refl _⟩
    (fun x => { tmps := #[.agg #[.pointer (some ⟨A 0, 0, none⟩)], .pointer (some ⟨w.heap.size, 0, none⟩), .slice none 0 0, .pointer (some ⟨w.heap.size + 1, 0, none⟩), .pointer (some ⟨A x, 0, none⟩), .agg #[.pointer (some ⟨A 0, 0, none⟩)], .func (.func 85) #[] #[.pointer (some ⟨w.heap.size + 1 + 1, 0, none⟩)], .pointer (some ⟨A x, 0, none⟩), undef, undef, undef, undef, undef, undef, undef, undef], defers := [] }) ?assign ?body ?done ?stop
  case assign =>
    intro l x W K hK
    gi_wp2
    exact hK
  case body =>
    rintro l pre x W ⟨⟨v, hc, hL⟩, hf, hH⟩ hlen
    gi_wp2
    obtain ⟨x0, x1, x2⟩ := hH.ring.ring.cells x
    have hW3 := hH.size
    have l1 : A x < W.heap.size := by have := hH.ring.ring.lt x; omega
    have l3 : w.heap.size + 1 < W.heap.size := by omega
    have HH := Lib.hid hH
    clear hH
    have hmap : (pre ++ [x]).map (cy L) = pre.map (cy L) ++ [cy L x] := by simp
    rcases hL with ⟨hnil, rfl⟩ | ⟨g, cap, rfl, hgl, hown⟩
    · skip
      have hmx : Try.prog.follows .mixedOrders = true := by kernel_rfl
      refine wpIn_region_any hmx (any_in (by kernel_rfl) (fun ⟨_, _, h⟩ => h) _ _ _ _ ?_)
      refine wpAny_take (i := 1) (v := .pointer (some ⟨A x, 0, none⟩)) rfl (by kernel_rfl) (by kernel_rfl) (by kernel_rfl) (fun _ _ _ h => h) (Or.inl ⟨by rfl, fun w => ?_⟩) ?_
      · go_simp
      refine wpAny_take (i := 2) (v := .pointer (some ⟨A x, 0, none⟩)) rfl (by kernel_rfl) (by kernel_rfl) (by kernel_rfl) (fun _ _ _ h => h) (Or.inl ⟨by rfl, fun w => ?_⟩) ?_
      · go_simp
      refine wpAny_take (i := 3) (v := .pointer (some ⟨A x, 0, none⟩)) rfl (by kernel_rfl) (by kernel_rfl) (by kernel_rfl) (fun _ _ _ h => h) (Or.inl ⟨by rfl, fun w => ?_⟩) ?_
      · go_simp
      (refine wpAny_ready (rs := [0, 4]) (by kernel_rfl) (by simp) ?_)
      refine AllReady.cons rfl (fun K hK => ?pa) (AllReady.cons rfl (fun K hK => ?pb) AllReady.nil)
      case' pa => (go_simp; (refine hK _ _ ?_); clear hK K; (refine wpAny_ready (rs := [4]) (by kernel_rfl) (by simp) ?_); (refine AllReady.cons rfl (fun K hK => ?_) AllReady.nil); go_simp; (refine hK _ _ ?_); clear hK K; (refine wpAny_ready (rs := [5]) (by kernel_rfl) (by simp) ?_); (refine AllReady.cons rfl (fun K hK => ?_) AllReady.nil); go_simp; (refine hK _ _ ?_); clear hK K)
      case' pb => (go_simp; (refine hK _ _ ?_); clear hK K; (refine wpAny_ready (rs := [0, 5]) (by kernel_rfl) (by simp) ?_); refine AllReady.cons rfl (fun K hK => ?pc) (AllReady.cons rfl (fun K hK => ?pd) AllReady.nil))
      case' pc => (go_simp; (refine hK _ _ ?_); clear hK K; (refine wpAny_ready (rs := [5]) (by kernel_rfl) (by simp) ?_); (refine AllReady.cons rfl (fun K hK => ?_) AllReady.nil); go_simp; (refine hK _ _ ?_); clear hK K)
      case' pd => (go_simp; (refine hK _ _ ?_); clear hK K; (refine wpAny_ready (rs := [0]) (by kernel_rfl) (by simp) ?_); (refine AllReady.cons rfl (fun K hK => ?_) AllReady.nil); go_simp; (refine hK _ _ ?_); clear hK K)
      all_goals
        refine any_seq (k := 6) rfl (by kernel_rfl) ?_
        have hb_wg : Below W.heap.size W W.drew := ⟨rfl, rfl, rfl, Nat.le_refl _, fun _ _ => rfl⟩
        have hsw : (W.alloc (.cells #[.int .i64 (cy L x).1, .int .i64 (cy L x).2] 31)).drew = W.drew.alloc (.cells #[.int .i64 (cy L x).1, .int .i64 (cy L x).2] 31) := rfl
        rw [hsw]
        clear hsw hmx
        have q1 : W.drew.cell? ⟨w.heap.size + 1, 0, none⟩ = some (.slice none 0 0) := hc
        have q2 : W.drew.frozen? ⟨w.heap.size + 1, 0, none⟩ = false := hf
        have hHg := Lib.hid (And.intro (HH.out.next (W' := W.drew) hn (by omega) (hb_wg.mono hW3)) hb_wg)
        have HM := Lib.hid hmap
        have HN := Lib.hid hnil
        clear hc hf hmap hnil hb_wg
        go_wp2_with (at_builtin; refine wp_append_nil _ rfl _ _ 23 rfl 31 _ 2 16 Try.underlying23 info_point rfl (by decide) (by decide) rfl _ 1 1 [(cy L x).1, (cy L x).2] rfl (by decide) rfl (two_cells W.drew _ _ _) (by omega) ?_; intro cap' w' hown hbe hlt; (have hbA : Below W.heap.size W.drew w' := ((Below.refl W.heap.size W.drew).alloc (Nat.le_refl _) (.cells #[.int .i64 (cy L x).1, .int .i64 (cy L x).2] 31)).trans (hbe.mono (by simp))); have q1' := (hbA.cell (p := ⟨w.heap.size + 1, 0, none⟩) l3).trans q1; have q2' := (hbA.frozen (p := ⟨w.heap.size + 1, 0, none⟩) l3).trans q2; (have hown' : Own w' (W.heap.size + 1) 31 2 1 cap' [(cy L x).1, (cy L x).2] := by simpa using hown); have HA := Lib.hid (And.intro hown' hbA); (have hsA : W.heap.size ≤ w'.heap.size := hbA.size); clear hown hown' hbe hlt hbA q1 q2)
        have hHw := hHg.out.1.next (W' := w') hn (by omega) (HA.out.2.mono (by omega))
        have hWw : Below W.heap.size W w' := hHg.out.2.trans HA.out.2
        refine ⟨(keeps_below hWw).trans (KeepsOthers.setCell _ _ _), Kp2.put hWw (by omega) (by omega) (by omega) (by omega) _, ⟨_, World.cell?_setCell_same' _ _ _ (by rw [q1']; rfl), .inr ⟨W.heap.size + 1, cap', ?_, by omega, ?_⟩⟩, by rw [World.frozen?_setCell]; exact q2', hHw.put hn (by omega) _⟩
        · rw [HM.out, HN.out]; simp
        · rw [HM.out, HN.out]
          exact (HA.out.1.setOther (by simp; omega) _)
    · have hgW := hown.lt
      have hne : w.heap.size + 1 ≠ g := by omega
      obtain ⟨m, hm⟩ : ∃ m, pre.length = m := ⟨_, rfl⟩
      rw [List.length_map, hm] at hc hown
      have hm12 : m < 12 := by omega
      have HW := Lib.hid hown
      have hmx : Try.prog.follows .mixedOrders = true := by kernel_rfl
      refine wpIn_region_any hmx (any_in (by kernel_rfl) (fun ⟨_, _, h⟩ => h) _ _ _ _ ?_)
      refine wpAny_take (i := 1) (v := .pointer (some ⟨A x, 0, none⟩)) rfl (by kernel_rfl) (by kernel_rfl) (by kernel_rfl) (fun _ _ _ h => h) (Or.inl ⟨by rfl, fun w => ?_⟩) ?_
      · go_simp
      refine wpAny_take (i := 2) (v := .pointer (some ⟨A x, 0, none⟩)) rfl (by kernel_rfl) (by kernel_rfl) (by kernel_rfl) (fun _ _ _ h => h) (Or.inl ⟨by rfl, fun w => ?_⟩) ?_
      · go_simp
      refine wpAny_take (i := 3) (v := .pointer (some ⟨A x, 0, none⟩)) rfl (by kernel_rfl) (by kernel_rfl) (by kernel_rfl) (fun _ _ _ h => h) (Or.inl ⟨by rfl, fun w => ?_⟩) ?_
      · go_simp
      (refine wpAny_ready (rs := [0, 4]) (by kernel_rfl) (by simp) ?_)
      refine AllReady.cons rfl (fun K hK => ?pa2) (AllReady.cons rfl (fun K hK => ?pb2) AllReady.nil)
      case' pa2 => (go_simp; (refine hK _ _ ?_); clear hK K; (refine wpAny_ready (rs := [4]) (by kernel_rfl) (by simp) ?_); (refine AllReady.cons rfl (fun K hK => ?_) AllReady.nil); go_simp; (refine hK _ _ ?_); clear hK K; (refine wpAny_ready (rs := [5]) (by kernel_rfl) (by simp) ?_); (refine AllReady.cons rfl (fun K hK => ?_) AllReady.nil); go_simp; (refine hK _ _ ?_); clear hK K)
      case' pb2 => (go_simp; (refine hK _ _ ?_); clear hK K; (refine wpAny_ready (rs := [0, 5]) (by kernel_rfl) (by simp) ?_); refine AllReady.cons rfl (fun K hK => ?pc2) (AllReady.cons rfl (fun K hK => ?pd2) AllReady.nil))
      case' pc2 => (go_simp; (refine hK _ _ ?_); clear hK K; (refine wpAny_ready (rs := [5]) (by kernel_rfl) (by simp) ?_); (refine AllReady.cons rfl (fun K hK => ?_) AllReady.nil); go_simp; (refine hK _ _ ?_); clear hK K)
      case' pd2 => (go_simp; (refine hK _ _ ?_); clear hK K; (refine wpAny_ready (rs := [0]) (by kernel_rfl) (by simp) ?_); (refine AllReady.cons rfl (fun K hK => ?_) AllReady.nil); go_simp; (refine hK _ _ ?_); clear hK K)
      all_goals
        refine any_seq (k := 6) rfl (by kernel_rfl) ?_
        have hb_wg : Below W.heap.size W W.drew := ⟨rfl, rfl, rfl, Nat.le_refl _, fun _ _ => rfl⟩
        have hsw : (W.alloc (.cells #[.int .i64 (cy L x).1, .int .i64 (cy L x).2] 31)).drew = W.drew.alloc (.cells #[.int .i64 (cy L x).1, .int .i64 (cy L x).2] 31) := rfl
        rw [hsw]
        clear hsw hmx
        have q1 : W.drew.cell? ⟨w.heap.size + 1, 0, none⟩ = some (.slice (some ⟨g, 0, none⟩) m cap) := hc
        have q2 : W.drew.frozen? ⟨w.heap.size + 1, 0, none⟩ = false := hf
        have hO : Own (W.drew.alloc (.cells #[.int .i64 (cy L x).1, .int .i64 (cy L x).2] 31)) g 31 2 m cap (fl (pre.map (cy L))) := (hown.below hb_wg).alloc _
        have HO := Lib.hid hO
        have HM := Lib.hid (And.intro hmap hm)
        clear hc hf hmap hown hm hb_wg hO
        go_wp2_with (at_builtin; refine wp_append _ rfl _ _ 23 rfl 31 _ 2 16 Try.underlying23 info_point rfl (by decide) (by decide) g m cap (fl (pre.map (cy L))) rfl HO.out _ 1 1 [(cy L x).1, (cy L x).2] rfl rfl (two_cells W.drew _ _ _) (by omega) ?_; intro g' cap' w' hown hgr hloc hlt; (have hq : ∀ k, k < W.heap.size → k ≠ g → w'.heap[k]? = W.heap[k]? := fun k hk hk2 => (hgr.block k (by simp; omega) (by simpa using hk2)).trans (Deep.blk_alloc_lt W.drew _ _ hk)); have q1' := (World.cell?_of_block (hq (w.heap.size + 1) l3 hne)).trans q1; have q2' := (World.frozen?_of_block (hq (w.heap.size + 1) l3 hne)).trans q2; have HA := Lib.hid (And.intro hown (And.intro hgr (And.intro hloc hlt))); clear hown hgr hloc hlt q1 q2 hq)
        have hbA : Below W.heap.size W (W.drew.alloc (.cells #[.int .i64 (cy L x).1, .int .i64 (cy L x).2] 31)) := (show Below W.heap.size W W.drew from ⟨rfl, rfl, rfl, Nat.le_refl _, fun _ _ => rfl⟩).alloc (Nat.le_refl _) _
        have hgr := HA.out.2.1
        have hszA := hbA.size
        have hgW : W.grownBy w' (some g) := ⟨hgr.os.trans hbA.os, hgr.tape.trans hbA.tape, hgr.output.trans hbA.output, Nat.le_trans hbA.size hgr.size, fun k hk hk2 => (hgr.block k (by omega) hk2).trans (hbA.block k hk)⟩
        have hloc := HA.out.2.2.1
        have hg'l : w3.heap.size ≤ g' := by rcases hloc with h | h <;> (rw [h]; first | omega | (simp; omega))
        refine ⟨(KeepsOthers.of_grownBy hgW (fun j o e ho => ?_)).trans (KeepsOthers.setCell _ _ _), (Kp2.grow hgW (by omega) (by omega) (by omega) (by omega)).t (Kp2.put (Below.refl _ _) (by have := hgW.size; omega) (by have := hgW.size; omega) (by omega) (by omega) _), ⟨_, World.cell?_setCell_same' _ _ _ (by rw [q1']; rfl), .inr ⟨g', cap', ?_, hg'l, ?_⟩⟩, by rw [World.frozen?_setCell]; exact q2', (HH.out.grow hn (by omega) hgW hgl).put hn (by omega) _⟩
        · cases e
          obtain ⟨cur, hb, -⟩ := HW.out.body
          rw [hb] at ho
          cases ho
          rfl
        · rw [HM.out.1]; simp [HM.out.2]
        · rw [HM.out.1, fl_append, List.length_append, List.length_map, HM.out.2]
          exact (HA.out.1.setOther (by simp; omega) _)
  case done =>
    rintro D ys W hD rfl ⟨⟨v, hc, hL⟩, hf, hH⟩ hK
    have hne : List.map (cy L) (List.range L.length) = L := by
      apply List.ext_getElem?
      intro i
      by_cases hi : i < L.length
      · rw [List.getElem?_map, List.getElem?_range hi, cy_lt hi]; rfl
      · rw [List.getElem?_eq_none (by simpa using hi), List.getElem?_eq_none (by omega)]
    rw [hne] at hL
    rcases hL with ⟨hnil, -⟩ | ⟨g, cap, rfl, hgl, hown⟩
    · rw [hnil] at hl; simp at hl
    · gi_wp2
      have hW3 := hH.size
      refine ⟨by simp, .inl ⟨_, _, rfl, run_takeDeferred hK, ?_⟩⟩
      refine ⟨_, results_tmp rfl _ _ _, g, cap, rfl, by omega, hown.block ?_, hH.below.trans (below_put W D _ (by omega))⟩
      obtain ⟨cur, hb, -⟩ := hown.body
      refine World.putObj_heap_other (fun e => ?_)
      rw [e] at hb
      rw [hb] at hK
      cases hK
  case stop =>
    rintro D c pre W _ _ h _
    exact h.elim
end Go.Proofs.Ythecapioagogbaa
