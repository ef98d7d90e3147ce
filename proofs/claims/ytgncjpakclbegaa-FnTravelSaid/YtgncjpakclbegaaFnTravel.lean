/-
  For every two codes the law FnTravel returns true: impl.TravelEnd answers as the reference model does; the end is the beginning plus the gap, the opposites of the steps in the opposite order lead back, and a traverse cut in two leads to the same end. No condition: every two lists of bytes are taken.
-/
import Derived.Test.YtgncjpakclbegaaHd
import Derived.Test.YtgncjpakclbegaaHg
import Derived.Test.YtgncjpakclbegaaHi
import Derived.Test.YtgncjpakclbegaaHj
import Derived.Test.YtgncjpakclbegaaCode
set_option linter.unusedSimpArgs false
set_option linter.unusedVariables false
namespace Go.Proofs.Ytgncjpakclbegaa.fnTravel
open Go.ChangeShapes Go.WideShapes Go.ChangeAt Go.RowKit Poly

/-- a point in a block -/
def At (W : World) (X : Nat) (z : P2) : Prop := X < W.heap.size ∧ W.cell? ⟨X, 0, none⟩ = some (.int .i64 z.1) ∧ W.cell? ⟨X, 1, none⟩ = some (.int .i64 z.2)
theorem At.below {W W' : World} {X : Nat} {z : P2} {b : Nat} (h : At W X z) (hx : X < b) (hb : Below b W W') : At W' X z :=
  ⟨Nat.lt_of_lt_of_le h.1 hb.size, (hb.cell (p := ⟨X, 0, none⟩) hx).trans h.2.1, (hb.cell (p := ⟨X, 1, none⟩) hx).trans h.2.2⟩
theorem At.new (W : World) (x y : Int) (T : TypeId) : At (W.alloc (.cells #[.int .i64 x, .int .i64 y] T)) W.heap.size (x, y) :=
  ⟨by simp, World.cell?_alloc_new _ _ _ 0, World.cell?_alloc_new _ _ _ 1⟩
theorem fl_preT {W : List P2} {m i : Nat} {z : Int} (h : (Poly.fl (W.take m))[i]? = some z) : (Poly.fl W)[i]? = some z := by
  obtain ⟨h1, -⟩ := List.getElem?_eq_some_iff.1 h
  have e := fl_append (W.take m) (W.drop m)
  rw [List.take_append_drop] at e
  rw [e, List.getElem?_append_left h1]
  exact h
theorem ints_takeT {w : World} {p : Option Addr} {L : List P2} (h : Ints w p (Poly.fl L)) (m : Nat) : Ints w p (Poly.fl (L.take m)) := by
  rcases h with h | ⟨B, o, rfl, hB, hx⟩
  · cases L with
    | nil => exact .inl (by simp [Poly.fl])
    | cons a l => simp [Poly.fl] at h
  · exact .inr ⟨B, o, rfl, hB, fun i z hi => hx i z (fl_preT hi)⟩
theorem ints_dropT {w : World} {B o : Nat} {L : List P2} (h : Ints w (some ⟨B, o, none⟩) (Poly.fl L)) (hB : B < w.heap.size) (m : Nat) : Ints w (some ⟨B, o + m * 2, none⟩) (Poly.fl (L.drop m)) :=
  .inr ⟨B, o + m * 2, rfl, hB, fun i z hi => by
    have e := fl_append (L.take m) (L.drop m)
    rw [List.take_append_drop] at e
    by_cases hm : m ≤ L.length
    · have hl : (Poly.fl (L.take m)).length = m * 2 := by rw [fl_len, List.length_take]; omega
      have hj : (Poly.fl L)[m * 2 + i]? = some z := by rw [e, List.getElem?_append_right (by omega), hl, show m * 2 + i - m * 2 = i by omega]; exact hi
      have := pts_cell h hj
      rw [Nat.add_assoc]; exact this
    · rw [List.drop_of_length_le (by omega)] at hi; simp [Poly.fl] at hi⟩
theorem ints_drT {w : World} {p : Option Addr} {zs : List Int} (h : Ints w p zs) : Ints w.drew p zs := h
theorem ng_take {L : List P2} {m j : Nat} (h : m + j + 1 = L.length) : (revT L).take (j + 1) = (revT L).take j ++ [ngP (cy L m)] := by
  unfold revT
  rw [List.take_add_one, List.getElem?_reverse (by rw [List.length_map]; omega), List.length_map, show L.length - 1 - j = m by omega, List.getElem?_map, cy_lt (by omega)]; rfl
theorem two_cellsF (V : World) (x y : Int) (T : TypeId) : ∀ (j : Nat) (z : Int), [x, y][j]? = some z → (V.alloc (.cells #[.int .i64 x, .int .i64 y] T)).drew.cell? ((⟨V.heap.size, 0, none⟩ : Addr).add j) = some (.int .i64 z) := two_cellsS V _ x y T rfl
theorem endI {w : World} {p : Option Addr} {n c : Nat} {L : List P2} {x y : Int} {z : P2} {b : Bool} (h : Ints w p (Poly.fl L)) (hn : L.length = n) (hb : goT (x, y) L = b) (hz : (if b = true then endT (x, y) L else (0, 0)) = z) :
    Calls Try.prog 33 #[.agg #[.int .i64 x, .int .i64 y], .slice p n c] w fun r w' => r = .returned (.tuple #[.agg #[.int .i64 z.1, .int .i64 z.2], .bool b]) ∧ Below w.heap.size w w' := by
  cases b
  · rw [if_neg (by decide)] at hz; subst hz; exact iTravelEnd_no h hn hb
  · rw [if_pos rfl] at hz; exact iTravelEnd_yes h hn hb hz
theorem endS {w : World} {p : Option Addr} {n c : Nat} {L : List P2} {x y : Int} {z : P2} {b : Bool} (h : Ints w p (Poly.fl L)) (hn : L.length = n) (hl : n ≤ 4000000000000000000) (hb : goT (x, y) L = b) (hz : (if b = true then endT (x, y) L else (0, 0)) = z) :
    Calls Try.prog 34 #[.agg #[.int .i64 x, .int .i64 y], .slice p n c] w fun r w' => r = .returned (.tuple #[.agg #[.int .i64 z.1, .int .i64 z.2], .bool b]) ∧ Below w.heap.size w w' := by
  cases b
  · rw [if_neg (by decide)] at hz; subst hz; exact sTravelEnd_no h hn hl hb
  · rw [if_pos rfl] at hz; exact sTravelEnd_yes h hn hb hz

set_option maxHeartbeats 16000000 in
set_option maxRecDepth 100000 in
theorem walk (len cap : Nat) (p : Option Addr) (len2 cap2 : Nat) (p2 : Option Addr) (w : World) (hl : len ≤ 1048576) (hl2 : len2 ≤ 1048576) (h : Hid (Code' w (.slice p len cap))) (h2 : Hid (Code' w (.slice p2 len2 cap2))) :
    Calls Try.prog 6 #[.slice p len cap, .slice p2 len2 cap2] w fun e w' => e = .returned (.bool true) ∧ Below w.heap.size w w' := by
  have hl' : ¬ (1048576 : Int) < (len : Int) := by omega
  have hl2' : ¬ (1048576 : Int) < (len2 : Int) := by omega
  clear h2
  go_enter Try.func6, Try.ntmps6
  go_upto_region 4 with (go_at_call 32; (with_reducible refine (drawTravelEnd_is _ _ h).mono ?_); rintro e wd ⟨x, y, L, q, c, rfl, hc, h12, hI, hne, hb_wd⟩; have hs_wd := hb_wd.size)
  clear h hne
  obtain ⟨n, hn⟩ : ∃ n, L.length = n := ⟨_, rfl⟩
  rw [hn] at hc h12 ⊢
  have hA0 := At.new wd x y 31
  obtain ⟨X, hX⟩ : ∃ X, X = wd.heap.size := ⟨_, rfl⟩
  rw [← hX] at hA0 ⊢
  refine gen_world (fun W => At W X (x, y) ∧ Ints W q (Poly.fl L) ∧ Below w.heap.size w W) ⟨hA0, hI.below ((Below.refl _ _).alloc (Nat.le_refl _) _), hb_wd.alloc hs_wd _⟩ (fun we hp => ?_)
  have H := Lib.hid hp
  have hwe := hp.2.2.size
  obtain ⟨hXl, k0, k1⟩ := hp.1
  simp only at k0 k1
  clear hp hA0 hX hI hb_wd hs_wd
  obtain ⟨b, hb⟩ : ∃ b, goT (x, y) L = b := ⟨_, rfl⟩
  obtain ⟨z, hz⟩ : ∃ z, (if b = true then endT (x, y) L else (0, 0)) = z := ⟨_, rfl⟩
  have c1 := fun w h => Lib.hid (endI (p := q) (n := n) (c := c) (L := L) (w := w) (x := x) (y := y) h hn hb hz)
  have c2 := fun w h => Lib.hid (endS (p := q) (n := n) (c := c) (L := L) (w := w) (x := x) (y := y) h hn (by omega) hb hz)
  have HZ := Lib.hid (And.intro hn (And.intro hb hz))
  clear hn hb hz
  go_upto_region 5 with (go_at_call 33; (with_reducible refine ((c1 _ ?_).out).mono ?_); (focus ((exact H.out.2.1); done)); rintro e wi ⟨rfl, hb_wi⟩; have hs_wi := hb_wi.size; (try simp at hs_wi))
  have hA0 := At.new wi z.1 z.2 31
  obtain ⟨E, hE⟩ : ∃ E, E = wi.heap.size := ⟨_, rfl⟩
  rw [← hE] at hA0 ⊢
  refine gen_world (fun W => At W E z ∧ Below we.heap.size we W) ⟨hA0, hb_wi.alloc hs_wi _⟩ (fun wf hp => ?_)
  have HF : Hid (At wf X (x, y) ∧ At wf E z ∧ Ints wf q (Poly.fl L) ∧ Below w.heap.size w wf) := Lib.hid ⟨H.out.1.below hXl hp.2, hp.1, H.out.2.1.below hp.2, H.out.2.2.trans (hp.2.mono hwe)⟩
  have hXf := HF.out.1.1
  have hEf := HF.out.2.1.1
  have hwf := HF.out.2.2.2.size
  have k0 : wf.cell? ⟨X, 0, none⟩ = some (.int .i64 x) := HF.out.1.2.1
  have k1 : wf.cell? ⟨X, 1, none⟩ = some (.int .i64 y) := HF.out.1.2.2
  clear hp hA0 hE hb_wi hs_wi H hXl hwe c1
  go_upto_region 6 with (go_at_call 34; (with_reducible refine ((c2 _ ?_).out).mono ?_); (focus ((exact HF.out.2.2.1); done)); rintro e ws ⟨rfl, hb_ws⟩; have hs_ws := hb_ws.size; (try simp at hs_ws))
  have hA0 := At.new ws z.1 z.2 31
  obtain ⟨E2, hE⟩ : ∃ E, E = ws.heap.size := ⟨_, rfl⟩
  rw [← hE] at hA0 ⊢
  refine gen_world (fun W => At W E2 z ∧ Below wf.heap.size wf W) ⟨hA0, hb_ws.alloc hs_ws _⟩ (fun wg hp => ?_)
  have HG : Hid (At wg X (x, y) ∧ At wg E z ∧ Ints wg q (Poly.fl L) ∧ Below w.heap.size w wg) := Lib.hid ⟨HF.out.1.below hXf hp.2, HF.out.2.1.below hEf hp.2, HF.out.2.2.1.below hp.2, HF.out.2.2.2.trans (hp.2.mono hwf)⟩
  obtain ⟨-, z0, z1⟩ := hp.1
  obtain ⟨hEg, y0, y1⟩ := HG.out.2.1
  have hXg := HG.out.1.1
  have hwg := HG.out.2.2.2.size
  clear hp hA0 hE hb_ws hs_ws HF hXf hEf hwf c2 k0 k1
  cases b
  · go_wp2_with fail
    go_ret
    exact ⟨rfl, HG.out.2.2.2⟩
  · go_upto_region 8 with fail
    clear z0 z1
    obtain ⟨hn, hgo, hz⟩ := HZ.out
    rw [if_pos rfl] at hz
    have ht := (goT_parts hgo).1
    have hn1 := (tvV_len ht).1
    rw [hn] at hn1
    obtain ⟨⟨gx, gy⟩, hg⟩ : ∃ g, gapT L = g := ⟨_, rfl⟩
    have hgb := gapT_bd ht
    rw [hg] at hgb
    simp only at hgb
    have hpx := Pt.pv_true ((goT_parts hgo).2 (x, y) (by cases L <;> simp [wayT]))
    simp only at hpx
    have hze : z = (x + gx, y + gy) := by rw [← hz, endT_gap, hg]; rfl
    subst hze
    have hmod : len2 % n < n := Nat.mod_lt _ (by omega)
    obtain ⟨m, hm⟩ : ∃ m, len2 % n + 1 = m := ⟨_, rfl⟩
    have hMi : (1 : Int) + (len2 : Int) % (n : Int) = (m : Int) := by rw [← hm, ← Int.natCast_emod]; omega
    have hM0 : (0 : Int) ≤ (len2 : Int) % (n : Int) := Int.emod_nonneg _ (by omega)
    have hM1 : (len2 : Int) % (n : Int) < (n : Int) := Int.emod_lt_of_pos _ (by omega)
    have hN0 : ¬ n = 0 := by omega
    have hN0' : ¬ (n : Int) = 0 := by omega
    obtain ⟨B, o, rfl, hB, -, -⟩ := HG.out.2.2.1.pt (i := 0) (by omega)
    go_upto_region 9 with fail
    have hm1 : 1 ≤ m := by omega
    have hmn : m ≤ n := by omega
    clear hm hmod hMi hM0 hM1 hN0 hN0'
    have hmn' : (m : Int) ≤ (n : Int) := by omega
    have hm0' : (0 : Int) ≤ (m : Int) := by omega
    have hmc : m ≤ c := by omega
    have hmc' : (m : Int) ≤ (c : Int) := by omega
    have hnc' : (n : Int) ≤ (c : Int) := by omega
    obtain ⟨⟨ux, uy⟩, hu⟩ : ∃ e, endT (x, y) (L.take m) = e := ⟨_, rfl⟩
    have cE : ∀ w, Ints w (some ⟨B, o, none⟩) (Poly.fl (L.take m)) → Hid (Calls Try.prog 33 #[.agg #[.int .i64 x, .int .i64 y], .slice (some ⟨B, o, none⟩) m c] w fun r w' => r = .returned (.tuple #[.agg #[.int .i64 ux, .int .i64 uy], .bool true]) ∧ Below w.heap.size w w') := fun w h => Lib.hid (iTravelEnd_yes h (by rw [List.length_take]; omega) (goT_take hgo hm1 (by omega)) hu)
    have cD : m < n → ∀ w, Ints w (some ⟨B, o + m * 2, none⟩) (Poly.fl (L.drop m)) → Hid (Calls Try.prog 33 #[.agg #[.int .i64 ux, .int .i64 uy], .slice (some ⟨B, o + m * 2, none⟩) (n - m) (c - m)] w fun r w' => r = .returned (.tuple #[.agg #[.int .i64 (x + gx), .int .i64 (y + gy)], .bool true]) ∧ Below w.heap.size w w') := fun hlt w h => Lib.hid (iTravelEnd_yes (e := (x + gx, y + gy)) h (by rw [List.length_drop]; omega) (by rw [← hu]; exact goT_drop hgo (by omega)) (by rw [← hu, endT_two]; exact hz))
    have cG : ∀ w, Ints w (some ⟨B, o, none⟩) (Poly.fl L) → Hid (Calls Try.prog 35 #[.slice (some ⟨B, o, none⟩) n c] w fun r w' => r = .returned (.tuple #[.agg #[.int .i64 gx, .int .i64 gy], .bool true]) ∧ Below w.heap.size w w') := fun w h => Lib.hid (iTravelGap_yes h hn ht hg)
    have cR : ∀ p d w, Ints w p (Poly.fl (revT L)) → Hid (Calls Try.prog 33 #[.agg #[.int .i64 (x + gx), .int .i64 (y + gy)], .slice p n d] w fun r w' => r = .returned (.tuple #[.agg #[.int .i64 x, .int .i64 y], .bool true]) ∧ Below w.heap.size w w') := fun p d w h => Lib.hid (iTravelEnd_yes (e := (x, y)) h (by rw [revT_len]; exact hn) (by have := goT_back hgo; rw [hz] at this; exact this) (by have := revT_end L (x, y); rw [hz] at this; exact this))
    have HU : Hid (m = n → ux = x + gx ∧ uy = y + gy) := Lib.hid (fun e => by
      rw [List.take_of_length_le (by omega), hz] at hu
      injection hu with h1 h2
      exact ⟨h1.symm, h2.symm⟩)
    have k0 : wg.cell? ⟨X, 0, none⟩ = some (.int .i64 x) := HG.out.1.2.1
    have k1 : wg.cell? ⟨X, 1, none⟩ = some (.int .i64 y) := HG.out.1.2.2
    have HL := Lib.hid (And.intro hn ht)
    have HBD := Lib.hid (And.intro hgb hpx)
    clear hu hz hgo hg ht HZ y0 y1 hgb hpx
    apply ways_cellT (x := ux) (y := uy) (V := wg)
    · intro REST
      go_region_held3 (fun W => W.cell? ⟨X, 0, none⟩ = some (.int .i64 x) ∧ W.cell? ⟨X, 1, none⟩ = some (.int .i64 y)) (((try dsimp only); (try go_split_ands); refine ⟨?_, ?_⟩ <;> (first | ((repeat (first | with_reducible assumption | (with_reducible refine cell_below_keep (by with_reducible assumption) ?_) | (with_reducible refine cell_gb_keep (by with_reducible assumption) (by omega) ?_) | (simp [go_sem]; done) | (with_reducible refine cell_alloc_keep _ ?_) | (with_reducible refine cell_drew_keep ?_) | (with_reducible refine cell_drewN_keep _ ?_) | (with_reducible refine cell_set_keep _ (by first | (simp; omega) | omega) ?_))); done) | (simp [*, go_sem]; done)))) ((go_at_call 33; (with_reducible refine ((cE _ ?_).out).mono ?_); (focus (first | exact ints_takeT HG.out.2.2.1 m | exact (ints_takeT HG.out.2.2.1 m).alloc _ | exact ints_drT (ints_takeT HG.out.2.2.1 m) | exact ints_drT ((ints_takeT HG.out.2.2.1 m).alloc _) | exact (ints_drT (ints_takeT HG.out.2.2.1 m)).alloc _)); rintro e wm ⟨rfl, hbn⟩; obtain ⟨hcn, hfn⟩ := bcell hbn; (try simp only [World.size_drew, World.cell?_drew, World.frozen?_drew, World.heap_drewN, World.cell?_drewN, World.frozen?_drewN] at hcn hfn); have hsz := hbn.size; (try simp at hsz); (try have hsl := Nat.lt_of_succ_le hsz); (try have hz0 : X < wm.heap.size := (by have := hbn.size; (try simp at this); omega))))
      all_goals
        first
        | (have z0 : wm.cell? ⟨wg.heap.size, 0, none⟩ = some (.int .i64 0) := (by rw [hcn _ _ (by simp)]; simp [go_sem])
           have z1 : wm.cell? ⟨wg.heap.size, 1, none⟩ = some (.int .i64 0) := (by rw [hcn _ _ (by simp)]; simp [go_sem])
           have hYA : CellT ((wm.setCell ⟨wg.heap.size, 0, none⟩ (.int .i64 (ux))).setCell ⟨wg.heap.size, 1, none⟩ (.int .i64 (uy))) wg.heap.size (ux) (uy) := (by refine ⟨?_, ?_⟩ <;> simp [go_sem, z0, z1])
           have hBA : Below wg.heap.size wg ((wm.setCell ⟨wg.heap.size, 0, none⟩ (.int .i64 (ux))).setCell ⟨wg.heap.size, 1, none⟩ (.int .i64 (uy))) := ((((below_dr ((Below.refl _ wg).alloc (Nat.le_refl _) (.cells #[.int .i64 0, .int .i64 0] 31))).trans (hbn.mono (by simp))).setCell (p := ⟨wg.heap.size, 0, none⟩) (Nat.le_refl _) _).setCell (p := ⟨wg.heap.size, 1, none⟩) (Nat.le_refl _) _)
           refine gen_exitH (fun W => CellT W wg.heap.size (ux) (uy) ∧ Below wg.heap.size wg W) ⟨hYA, hBA⟩ (fun W hW => ?_)
           obtain ⟨hW1, hW2⟩ := hW
           obtain ⟨Y, hYe⟩ : ∃ Y, wg.heap.size = Y := ⟨_, rfl⟩
           have hW2' := Lib.hid hW2
           clear hW2
           rw [hYe] at hW1 ⊢
           exact REST Y W hW1 hW2'.out)
        | (have hYA : CellT (wm.alloc (.cells #[.int .i64 (ux), .int .i64 (uy)] 31)) wm.heap.size (ux) (uy) := (by refine ⟨?_, ?_⟩ <;> simp [go_sem])
           have hBA : Below wg.heap.size wg (wm.alloc (.cells #[.int .i64 (ux), .int .i64 (uy)] 31)) := ((below_dr (Below.refl _ wg)).trans hbn).alloc hsz _
           obtain ⟨Y, hYe⟩ : ∃ Y, wm.heap.size = Y := ⟨_, rfl⟩
           rw [hYe] at hYA ⊢
           refine gen_exitH (fun W => CellT W Y (ux) (uy) ∧ Below wg.heap.size wg W) ⟨hYA, hBA⟩ (fun W hW => ?_)
           exact REST Y W hW.1 hW.2)
        | trace_state
    · intro Y W hY hBW
      have HW : Hid (At W X (x, y) ∧ At W E (x + gx, y + gy) ∧ At W Y (ux, uy) ∧ Ints W (some ⟨B, o, none⟩) (Poly.fl L) ∧ Below w.heap.size w W) := Lib.hid ⟨HG.out.1.below hXg hBW, HG.out.2.1.below hEg hBW, ⟨World.block_lt_of_cell? W _ hY.1, hY.1, hY.2⟩, HG.out.2.2.1.below hBW, HG.out.2.2.2.trans (hBW.mono hwg)⟩
      have hXW := HW.out.1.1
      have hEW := HW.out.2.1.1
      have hYW := HW.out.2.2.1.1
      have hwW := HW.out.2.2.2.2.size
      have hBW2 : B < W.heap.size := Nat.lt_of_lt_of_le hB hBW.size
      clear hY hBW k0 k1 HG hXg hEg hwg cE hB
      go_upto_region 11 with (go_at_call 35; (with_reducible refine ((cG _ ?_).out).mono ?_); (focus ((exact HW.out.2.2.2.1); done)); rintro e wh ⟨rfl, hb_wh⟩; have hs_wh := hb_wh.size; (try simp at hs_wh))
      have hA0 := At.new wh gx gy 31
      obtain ⟨G, hG⟩ : ∃ G, G = wh.heap.size := ⟨_, rfl⟩
      rw [← hG] at hA0 ⊢
      refine gen_world (fun V => At V G (gx, gy) ∧ Below W.heap.size W V) ⟨hA0, hb_wh.alloc hs_wh _⟩ (fun wv hp => ?_)
      have HV : Hid (At wv X (x, y) ∧ At wv E (x + gx, y + gy) ∧ At wv Y (ux, uy) ∧ At wv G (gx, gy) ∧ Ints wv (some ⟨B, o, none⟩) (Poly.fl L) ∧ Below w.heap.size w wv) := Lib.hid ⟨HW.out.1.below hXW hp.2, HW.out.2.1.below hEW hp.2, HW.out.2.2.1.below hYW hp.2, hp.1, HW.out.2.2.2.1.below hp.2, HW.out.2.2.2.2.trans (hp.2.mono hwW)⟩
      have hXv := HV.out.1.1
      have hEv := HV.out.2.1.1
      have hYv := HV.out.2.2.1.1
      have hGv := HV.out.2.2.2.1.1
      have hwv := HV.out.2.2.2.2.2.size
      have hBv : B < wv.heap.size := Nat.lt_of_lt_of_le hBW2 hp.2.size
      clear hp hA0 hG hb_wh hs_wh HW hXW hEW hYW hwW hBW2 cG
      have H0 := Lib.hid (Own.empty wv 31 2)
      go_wp2_with fail
      go_loopw [16, 17] (fun l i wr => ∃ (k j g1 cap : Nat) (z : Int), k + j = n ∧ i = .int .i64 z ∧ z + 1 = k ∧ l = .slice (some ⟨g1, 0, none⟩) j cap ∧ wv.heap.size ≤ g1 ∧ Own wr g1 31 2 j cap (Poly.fl ((revT L).take j)) ∧ Below wv.heap.size wv wr) (fun _ i _ => (intOf i + 1).toNat)
      case atStart => exact ⟨n, 0, wv.heap.size, 0, _, rfl, rfl, by (try rw [IntKind.wrap_i64]); omega, rfl, Nat.le_refl _, H0.out, (by repeat (first | assumption | exact Below.refl _ _ | (refine below_chain ?_ (by assumption) (by first | omega | (simp <;> omega) | simp)) | (refine Below.alloc ?_ (by first | omega | (simp <;> omega) | simp) _) | (apply below_drewN) | (apply below_drew) | (refine Below.setCell ?_ (by first | omega | (simp <;> omega) | simp) _)))⟩
      case round =>
        clear H0
        obtain ⟨k, j, g1, cp, z, hkj, rfl, hz, rfl, hg1, ho, hb⟩ := hrel
        have hbs := hb.size
        cases k with
        | zero =>
          obtain rfl : j = n := by omega
          obtain rfl : z = -1 := by omega
          rw [List.take_of_length_le (by rw [revT_len, HL.out.1]; exact Nat.le_refl _)] at ho
          have HO := Lib.hid (And.intro ho hb)
          have hr := HV.out.2.1.below hEv hb
          have x0 : wr.cell? ⟨E, 0, none⟩ = some (.int .i64 (x + gx)) := hr.2.1
          have x1 : wr.cell? ⟨E, 1, none⟩ = some (.int .i64 (y + gy)) := hr.2.2
          clear ho hb hr
          go_upto_region 17 with (go_at_call 33; (with_reducible refine ((cR _ _ _ ?_).out).mono ?_); (focus ((exact HO.out.1.pts); done)); rintro e wh ⟨rfl, hb_wh⟩; have hs_wh := hb_wh.size; (try simp at hs_wh))
          have hA0 := At.new wh x y 31
          obtain ⟨Z, hZ⟩ : ∃ Z, Z = wh.heap.size := ⟨_, rfl⟩
          rw [← hZ] at hA0 ⊢
          refine gen_world (fun V => At V Z (x, y) ∧ Below wr.heap.size wr V) ⟨hA0, hb_wh.alloc hs_wh _⟩ (fun wq hp => ?_)
          have hvq : Below wv.heap.size wv wq := HO.out.2.trans (hp.2.mono hbs)
          have HQ : Hid (At wq X (x, y) ∧ At wq E (x + gx, y + gy) ∧ At wq Y (ux, uy) ∧ At wq G (gx, gy) ∧ Ints wq (some ⟨B, o, none⟩) (Poly.fl L) ∧ Below w.heap.size w wq) := Lib.hid ⟨HV.out.1.below hXv hvq, HV.out.2.1.below hEv hvq, HV.out.2.2.1.below hYv hvq, HV.out.2.2.2.1.below hGv hvq, HV.out.2.2.2.2.1.below hvq, HV.out.2.2.2.2.2.trans (hvq.mono hwv)⟩
          obtain ⟨-, z0, z1⟩ := hp.1
          obtain ⟨-, a0, a1⟩ := HQ.out.1
          obtain ⟨-, b0, b1⟩ := HQ.out.2.1
          obtain ⟨hYq, d0, d1⟩ := HQ.out.2.2.1
          obtain ⟨-, f0, f1⟩ := HQ.out.2.2.2.1
          simp only at z0 z1 a0 a1 b0 b1 d0 d1 f0 f1
          have hBq : B < wq.heap.size := Nat.lt_of_lt_of_le hBv hvq.size
          obtain ⟨hgb, hpx⟩ := HBD.out
          clear hp hA0 hZ hb_wh hs_wh HO hvq x0 x1 cR HV
          by_cases hmj : m = j
          · obtain ⟨e1, e2⟩ := HU.out hmj
            subst hmj e1 e2
            go_wp2_with fail
            go_ret
            exact ⟨rfl, HQ.out.2.2.2.2.2⟩
          · have hlt : m < j := by omega
            have hne' : ¬ (m : Int) = (j : Int) := by omega
            have hck : ¬ c = m := by omega
            have cD := cD hlt
            go_upto_region 21 with fail
            have HI := Lib.hid (ints_dropT HQ.out.2.2.2.2.1 hBq m)
            clear z0 z1 a0 a1 f0 f1 hgb hpx
            apply ways_cellT (x := x + gx) (y := y + gy) (V := wq)
            · intro REST
              go_region_held3 (fun W => W.cell? ⟨Y, 0, none⟩ = some (.int .i64 ux) ∧ W.cell? ⟨Y, 1, none⟩ = some (.int .i64 uy)) (((try dsimp only); (try go_split_ands); refine ⟨?_, ?_⟩ <;> (first | ((repeat (first | with_reducible assumption | (with_reducible refine cell_below_keep (by with_reducible assumption) ?_) | (with_reducible refine cell_gb_keep (by with_reducible assumption) (by omega) ?_) | (simp [go_sem]; done) | (with_reducible refine cell_alloc_keep _ ?_) | (with_reducible refine cell_drew_keep ?_) | (with_reducible refine cell_drewN_keep _ ?_) | (with_reducible refine cell_set_keep _ (by first | (simp; omega) | omega) ?_))); done) | (simp [*, go_sem]; done)))) ((go_at_call 33; (with_reducible refine ((cD _ ?_).out).mono ?_); (focus (first | exact HI.out | exact (HI.out).alloc _ | exact ints_drT (HI.out) | exact ints_drT ((HI.out).alloc _) | exact (ints_drT (HI.out)).alloc _)); rintro e wm ⟨rfl, hbn⟩; obtain ⟨hcn, hfn⟩ := bcell hbn; (try simp only [World.size_drew, World.cell?_drew, World.frozen?_drew, World.heap_drewN, World.cell?_drewN, World.frozen?_drewN] at hcn hfn); have hsz := hbn.size; (try simp at hsz); (try have hsl := Nat.lt_of_succ_le hsz); (try have hz0 : Y < wm.heap.size := (by have := hbn.size; (try simp at this); omega))))
              all_goals
                first
                | (have z0 : wm.cell? ⟨wq.heap.size, 0, none⟩ = some (.int .i64 0) := (by rw [hcn _ _ (by simp)]; simp [go_sem])
                   have z1 : wm.cell? ⟨wq.heap.size, 1, none⟩ = some (.int .i64 0) := (by rw [hcn _ _ (by simp)]; simp [go_sem])
                   have hYA : CellT ((wm.setCell ⟨wq.heap.size, 0, none⟩ (.int .i64 (x + gx))).setCell ⟨wq.heap.size, 1, none⟩ (.int .i64 (y + gy))) wq.heap.size (x + gx) (y + gy) := (by refine ⟨?_, ?_⟩ <;> simp [go_sem, z0, z1])
                   have hBA : Below wq.heap.size wq ((wm.setCell ⟨wq.heap.size, 0, none⟩ (.int .i64 (x + gx))).setCell ⟨wq.heap.size, 1, none⟩ (.int .i64 (y + gy))) := ((((below_dr ((Below.refl _ wq).alloc (Nat.le_refl _) (.cells #[.int .i64 0, .int .i64 0] 31))).trans (hbn.mono (by simp))).setCell (p := ⟨wq.heap.size, 0, none⟩) (Nat.le_refl _) _).setCell (p := ⟨wq.heap.size, 1, none⟩) (Nat.le_refl _) _)
                   refine gen_exitH (fun W => CellT W wq.heap.size (x + gx) (y + gy) ∧ Below wq.heap.size wq W) ⟨hYA, hBA⟩ (fun W hW => ?_)
                   obtain ⟨hW1, hW2⟩ := hW
                   obtain ⟨Y, hYe⟩ : ∃ Y, wq.heap.size = Y := ⟨_, rfl⟩
                   have hW2' := Lib.hid hW2
                   clear hW2
                   rw [hYe] at hW1 ⊢
                   exact REST Y W hW1 hW2'.out)
                | (have hYA : CellT (wm.alloc (.cells #[.int .i64 (x + gx), .int .i64 (y + gy)] 31)) wm.heap.size (x + gx) (y + gy) := (by refine ⟨?_, ?_⟩ <;> simp [go_sem])
                   have hBA : Below wq.heap.size wq (wm.alloc (.cells #[.int .i64 (x + gx), .int .i64 (y + gy)] 31)) := ((below_dr (Below.refl _ wq)).trans hbn).alloc hsz _
                   obtain ⟨Y, hYe⟩ : ∃ Y, wm.heap.size = Y := ⟨_, rfl⟩
                   rw [hYe] at hYA ⊢
                   refine gen_exitH (fun W => CellT W Y (x + gx) (y + gy) ∧ Below wq.heap.size wq W) ⟨hYA, hBA⟩ (fun W hW => ?_)
                   exact REST Y W hW.1 hW.2)
                | trace_state
            · intro Y2 W hY hBW
              have y0 := hY.1
              have y1 := hY.2
              have hr := HQ.out.2.1.below HQ.out.2.1.1 hBW
              have b0 : W.cell? ⟨E, 0, none⟩ = some (.int .i64 (x + gx)) := hr.2.1
              have b1 : W.cell? ⟨E, 1, none⟩ = some (.int .i64 (y + gy)) := hr.2.2
              have HF := Lib.hid (HQ.out.2.2.2.2.2.trans (hBW.mono HQ.out.2.2.2.2.2.size))
              clear hr hBW hY d0 d1
              go_wp2_with fail
              go_ret
              exact ⟨rfl, HF.out⟩
        | succ k =>
          obtain rfl : z = (k : Int) := by omega
          have hkL : k < L.length := by have := HL.out.1; omega
          obtain ⟨B0, o0, e0, -, c0', c1'⟩ := HV.out.2.2.2.2.1.pt (i := k) hkL
          simp only [Option.some.injEq, Addr.mk.injEq] at e0
          obtain ⟨rfl, rfl, -⟩ := e0
          have x0 := (hb.cell (p := ⟨B, o + k * 2, none⟩) hBv).trans c0'
          have x1 := (hb.cell (p := ⟨B, o + k * 2 + 1, none⟩) hBv).trans c1'
          obtain ⟨b1, b2⟩ := stP_bd (tvV_at HL.out.2 hkL)
          have HT := Lib.hid (ng_take (L := L) (m := k) (j := j) (by have := HL.out.1; omega))
          obtain ⟨s, hs⟩ : ∃ s, cy L k = s := ⟨_, rfl⟩
          rw [hs] at x0 x1 b1 b2 HT
          have HN : Hid (IntKind.i64.wrap (-s.1) = 0 - s.1 ∧ IntKind.i64.wrap (-s.2) = 0 - s.2) := Lib.hid ⟨by rw [IntKind.wrap_i64]; omega, by rw [IntKind.wrap_i64]; omega⟩
          have HO := Lib.hid (And.intro ho hb)
          have hlg := ho.lt
          have hk0 : (0 : Int) ≤ (k : Int) := by omega
          have hkn : (k : Int) < (n : Int) := by omega
          have hj12 : j ≤ 12 := by omega
          have hBg : some B ≠ some g1 := by simp; omega
          have hBr : B < wr.heap.size := by omega
          clear ho hb c0' c1' b1 b2 hs
          go_upto_region 15 with fail
          go_region_held3 (fun W => W.cell? ⟨B, o + k * 2, none⟩ = some (.int .i64 s.1) ∧ W.cell? ⟨B, o + k * 2 + 1, none⟩ = some (.int .i64 s.2)) (first | (go_keep; done) | (go_split_ands; refine ⟨?_, ?_⟩ <;> (rw [hg2.cell_far _ (by simp; omega) hBg]; assumption)))
            ((refine step_app _ (by rfl) _ _ _ (by rfl) 31 _ 2 16 Try.underlying23 info_point rfl (by decide) (by decide) g1 j cp _ (by rfl) (own_drew (HO.out.1.alloc _)) ⟨wr.heap.size, 0, none⟩ 1 1 [_, _] (by rfl) rfl (two_cellsF wr _ _ _) (by decide) (by omega) ?_; intro g2 d2 w1 hown hg2 hloc hlt1))
          rw [HN.out.1, HN.out.2] at hown hg2 hloc
          have hz1 := hg2.size
          have hR : wv.heap.size ≤ g2 ∧ Below wv.heap.size wv w1 := by
            refine ⟨?_, below_gr (below_dr (HO.out.2.alloc hbs _)) hg2 hg1 (by simp; omega)⟩
            rcases hloc with e | e
            · omega
            · simp at e; omega
          have hown2 : Own w1 g2 31 2 (j + 1) d2 (Poly.fl ((revT L).take (j + 1))) := by rw [HT.out, fl_append]; exact hown
          have HR := Lib.hid (And.intro hown2 hR)
          clear hown hown2 hg2 hloc hlt1 hR hz1 hBg
          go_wp2_with fail
          exact ⟨⟨k, j + 1, g2, d2, (k : Int) - 1, by omega, rfl, by omega, rfl, HR.out.2.1, HR.out.1, HR.out.2.2⟩, by (try simp [intOf]); (try omega)⟩

set_option maxRecDepth 100000 in
theorem walk_long (len cap : Nat) (p : Option Addr) (len1 cap1 : Nat) (p1 : Option Addr) (w : World) (hl : 1048576 < len ∨ 1048576 < len1) :
    Calls Try.prog 6 #[.slice p len cap, .slice p1 len1 cap1] w fun e w' => e = .returned (.bool true) ∧ Below w.heap.size w w' := by
  by_cases h0 : (1048576 : Int) < (len : Int)
  · go_enter Try.func6, Try.ntmps6
    go_wp2
    go_ret
    exact ⟨rfl, Below.refl _ _⟩
  · have hl' : (1048576 : Int) < (len1 : Int) := by omega
    clear hl
    go_enter Try.func6, Try.ntmps6
    go_wp2
    go_ret
    exact ⟨rfl, Below.refl _ _⟩

set_option maxRecDepth 100000 in
theorem lifted (os : Os) (started : os.Started) (H : Type) (enc : TypeId × Value → H) :
    ReturnsInHanded {} Try.checked os 6 .any (Rows.fnTravelSpec.pre6 enc Try.prog Try.f6 Rows.fnTravelRow.domain false) (Rows.fnTravelSpec.post enc Try.prog Try.f6 false true false false) := by
  refine returnsInHanded_of_change (C := Try.checked) own started (by kernel_rfl) Try.func6
    (ChangeSpec.witness6 (enc := enc) (C := Try.checked) false ⟨#[], #[.slice none 0 0, .slice none 0 0], []⟩ 8 (by kernel_rfl) (by kernel_rfl) (by kernel_rfl) (by kernel_rfl)) ?_
  intro W base args ds gs before hval0 hW hcnd _
  have hval : ∀ (j : Nat) t v, Try.f6.params[j]? = some t → args[j]? = some v → Value.okWide Try.prog W .any base t v := hval0
  have hW' := hW
  obtain ⟨p, q, hA0, hV, rfl, hfz, hnd⟩ := hW
  have hA : DataW.TrodAll enc Try.prog W 0 (fun _ => true) true Try.f6.params.toList args.toList ds p := hA0
  rw [Try.params6] at hA hval
  obtain ⟨v0, vs0, d0, ds0, p0, q0, hargs, rfl, rfl, h0, r0⟩ := trodAll_cons hA
  obtain ⟨v1, vs1, d1, ds1, p1, q1, rfl, rfl, rfl, h1, r1⟩ := trodAll_cons r0
  obtain ⟨rfl, rfl, rfl⟩ := trodAll_nil r1
  obtain rfl : args = #[v0, v1] := by cases args; simp_all
  obtain ⟨rfl, rfl⟩ := trodVars_none hV
  obtain ⟨a0, len0, cap0, rfl⟩ := okWide_slice Try.underlying22 (hval 0 22 v0 rfl rfl)
  have k0 := h0
  have lt0 : ∀ x ∈ p0, x.block < W.heap.size := by obtain ⟨m, hm⟩ := k0; exact DataW.trod_lt m _ _ _ hm
  obtain ⟨z0, w0⟩ : ∃ zs, IsRow .u8 W a0 len0 cap0 zs := by
    obtain ⟨fuel, hf⟩ := h0
    rcases open_ints Try.underlying22 Try.underlying5 (by kernel_rfl) hf with ⟨hcs, _⟩ | ⟨x, l, c, zs, hcs, _, hl, hm, hz, _, hcell, hwz⟩
    · simp [Value.cells] at hcs
      obtain ⟨rfl, rfl, rfl⟩ := hcs
      exact ⟨[], .inl ⟨rfl, rfl, rfl, rfl⟩⟩
    · simp [Value.cells] at hcs
      obtain ⟨rfl, rfl, rfl⟩ := hcs
      exact ⟨zs, .inr ⟨_, rfl, hl, hm, by simpa using hz, hcell, hwz⟩⟩
  obtain ⟨a1, len1, cap1, rfl⟩ := okWide_slice Try.underlying22 (hval 1 22 v1 rfl rfl)
  have k1 := h1
  have lt1 : ∀ x ∈ p1, x.block < W.heap.size := by obtain ⟨m, hm⟩ := k1; exact DataW.trod_lt m _ _ _ hm
  obtain ⟨z1, w1⟩ : ∃ zs, IsRow .u8 W a1 len1 cap1 zs := by
    obtain ⟨fuel, hf⟩ := h1
    rcases open_ints Try.underlying22 Try.underlying5 (by kernel_rfl) hf with ⟨hcs, _⟩ | ⟨x, l, c, zs, hcs, _, hl, hm, hz, _, hcell, hwz⟩
    · simp [Value.cells] at hcs
      obtain ⟨rfl, rfl, rfl⟩ := hcs
      exact ⟨[], .inl ⟨rfl, rfl, rfl, rfl⟩⟩
    · simp [Value.cells] at hcs
      obtain ⟨rfl, rfl, rfl⟩ := hcs
      exact ⟨zs, .inr ⟨_, rfl, hl, hm, by simpa using hz, hcell, hwz⟩⟩
  clear hA0 hval0
  have hw : Calls Try.prog 6 #[.slice a0 len0 cap0, .slice a1 len1 cap1] W fun e w' => e = .returned (.bool true) ∧ Below W.heap.size W w' := by
    by_cases hl : len0 ≤ 1048576
    · by_cases hm : len1 ≤ 1048576
      · exact walk len0 cap0 a0 len1 cap1 a1 W hl hm (Lib.hid (code_of_row w0 hl)) (Lib.hid (code_of_row w1 hm))
      · exact walk_long len0 cap0 a0 len1 cap1 a1 W (by omega)
    · exact walk_long len0 cap0 a0 len1 cap1 a1 W (by omega)
  refine hw.mono fun e W' ⟨he, bel⟩ => ?_
  subst he
  exact ⟨_, rfl, _, _, _, [], _, [], hW', trodAll_mk1 (shut_bool Try.underlying4 _), (trodAll_cons_mk (Below.trod laidOut (by kernel_rfl) (of_decide_eq_true (by kernel_rfl)) k0 bel lt0) (trodAll_cons_mk (Below.trod laidOut (by kernel_rfl) (of_decide_eq_true (by kernel_rfl)) k1 bel lt1) trodAll_mk0)), rfl, bel.frame _, fun h => by cases h⟩

theorem over : Rows.fnTravelRow.holds Try.pinned (OpenSpec.ofChange Rows.fnTravelSpec) :=
  OpenClaim.holds_of_wide 6 Try.f6 rfl rfl rfl rfl rfl rfl rfl ⟨rfl, rfl, rfl, rfl, rfl⟩ rfl rfl rfl rfl rfl (by kernel_rfl) Try.func6 (by unfold joinedFacts; rw [seat_enter, seat_lift, seat_make]; kernel_rfl)
    (of_decide_eq_true (by kernel_rfl)) (by unfold Func.isWrapper; first | (rw [if_pos (by decide +kernel)]; kernel_rfl) | (rw [if_neg (by decide +kernel)]; exact ⟨rfl, rfl⟩))
    (fun os started H enc _ => lifted os started H enc)

theorem proved : Rows.FnTravelSaid := over
end Go.Proofs.Ytgncjpakclbegaa.fnTravel

