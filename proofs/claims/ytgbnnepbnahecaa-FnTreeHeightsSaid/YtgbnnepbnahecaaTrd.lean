/-
  The heights that the reference model finds for a tree.
-/
import Derived.Test.YtgbnnepbnahecaaTrc
namespace Go.Proofs.Ytgbnnepbnahecaa
open Go.RowKit
set_option linter.unusedVariables false

/-- the block g is a row of these bools -/
def Bools (w : World) (g : Nat) (ks : List Bool) : Prop := ∃ cur : Array Value, w.heap[g]? = some (.cells cur 4 (0, 0)) ∧ cur.toList = ks.map .bool
section
variable {w w' : World} {g : Nat} {ks : List Bool}
theorem Bools.lt (h : Bools w g ks) : g < w.heap.size := by obtain ⟨_, hg, _⟩ := h; exact (Array.getElem?_eq_some_iff.1 hg).1
theorem Bools.cell (h : Bools w g ks) {i : Nat} {b : Bool} (hi : ks[i]? = some b) : w.cell? ⟨g, i, none⟩ = some (.bool b) := by
  obtain ⟨cur, hg, hc⟩ := h
  rw [Joins.cell_of_block hg]
  have : cur.toList[i]? = some (.bool b) := by rw [hc, List.getElem?_map, hi]; rfl
  simpa using this
theorem Bools.frozen (h : Bools w g ks) (i : Nat) : w.frozen? ⟨g, i, none⟩ = false := by obtain ⟨_, hg, _⟩ := h; exact Joins.unfrozen_of_block hg i
theorem Bools.block (h : Bools w g ks) (e : w'.heap[g]? = w.heap[g]?) : Bools w' g ks := by obtain ⟨cur, hg, hc⟩ := h; exact ⟨cur, e.trans hg, hc⟩
theorem Bools.below (h : Bools w g ks) (hb : Below w.heap.size w w') : Bools w' g ks := h.block (hb.block _ h.lt)
theorem Bools.alloc (h : Bools w g ks) (o : Obj) : Bools (w.alloc o) g ks := h.block (Deep.blk_alloc_lt _ _ _ h.lt)
theorem Bools.setOther (h : Bools w g ks) {a : Addr} (ha : g ≠ a.block) (v : Value) : Bools (w.setCell a v) g ks := h.block (Deep.blk_setCell_other _ _ _ _ ha)
theorem Bools.set (h : Bools w g ks) (i : Nat) (b : Bool) : Bools (w.setCell ⟨g, i, none⟩ (.bool b)) g (ks.set i b) := by
  obtain ⟨cur, hg, hc⟩ := h
  exact ⟨_, Joins.block_setCell hg _, by simp [hc, List.map_set]⟩
theorem Bools.made (w : World) (n : Nat) : Bools (w.alloc (.cells (madeCells #[.bool false] n) 4)) w.heap.size (List.replicate n false) :=
  ⟨_, Deep.blk_alloc_new _ _, by
    apply List.ext_getElem?
    intro i
    by_cases hi : i < n
    · simp [madeCells, hi, Nat.mod_one, List.getElem?_replicate]
    · have : (madeCells #[Value.bool false] n).toList.length = n := by rw [Array.length_toList]; exact size_madeCells _ _
      rw [List.getElem?_eq_none (by omega), List.getElem?_eq_none (by simp; omega)]⟩
end

set_option maxHeartbeats 8000000 in
set_option maxRecDepth 100000 in
theorem sHeights_at (N m : Nat) (p : Option Addr) (c : Nat) (rs : List Rn) (w : World) (h : Runs w p rs) (hm : rs.length = m) (hw : nWhole N rs = true) (hf : Free N rs) :
    Calls Try.prog 62 #[.int .i64 N, .slice p m c] w fun e w' => ∃ (L : List Int) (g : Nat), e = .returned (.slice (some ⟨g, 0, none⟩) N N) ∧ IsHt N rs L ∧ w.heap.size ≤ g ∧ Own w' g 3 1 N N L ∧ Below w.heap.size w w' := by
  have hn := (whole_iff.1 hw).1
  obtain ⟨hn2, hn6, hl12, hall⟩ := nOk_true hn
  have hN6 : N ≤ 6 := by omega
  obtain ⟨P, hP0, hPr⟩ := pot_zero (nOk_ends hn) hf
  have HP := Lib.hid (And.intro hP0 (And.intro hPr (And.intro hw hn)))
  clear hP0 hPr hw hf
  have hm12 : m ≤ 12 := by omega
  have H := Lib.hid (And.intro h (And.intro hm hall))
  have hmi := fun w => made_ints w N (by omega)
  have hmb := fun w => made_bools w N (by omega)
  have HO0 := Lib.hid (Own.made w 3 N 1 (by decide) (by unfold maxLen; omega))
  have HF0 := fun w => Lib.hid (Bools.made w N)
  have hlN : (0 : Int) < (N : Int) := by omega
  clear h hm hn hall hl12
  go_enter Try.func62, Try.ntmps62
  go_upto_region 3 with fail
  refine gen_world (fun W => Own W w.heap.size 3 1 N N (List.replicate (N * 1) 0) ∧ Bools W (w.heap.size + 1) (List.replicate N false) ∧ Below w.heap.size w W) ?_ (fun w1 h1 => ?_)
  · have hF1 := (HF0 (w.alloc (.cells (madeCells #[.int .i64 0] N) 3))).out
    have hO1 : Own (w.alloc (.cells (madeCells #[.int .i64 0] N) 3)) w.heap.size 3 1 N N (List.replicate (N * 1) 0) := by simpa using HO0.out
    exact ⟨hO1.alloc _, by simpa using hF1, (by repeat (first | assumption | exact Below.refl _ _ | (refine below_chain ?_ (by assumption) (by first | omega | (simp <;> omega) | simp)) | (refine Below.alloc ?_ (by first | omega | (simp <;> omega) | simp) _) | (apply below_drewN) | (apply below_drew) | (refine Below.setCell ?_ (by first | omega | (simp <;> omega) | simp) _)))⟩
  obtain ⟨ho1, hf1, hb1⟩ := h1
  have hb0 := hf1.cell (i := 0) (b := false) (by simp [List.getElem?_replicate]; omega)
  have hz0 := hf1.frozen 0
  have HS := Lib.hid (And.intro ho1 (And.intro hf1 hb1))
  clear hmi hmb HF0 HO0 ho1 hf1 hb1
  go_wp2_with fail
  refine gen_world (fun W => Own W w.heap.size 3 1 N N (List.replicate (N * 1) 0) ∧ Bools W (w.heap.size + 1) ((List.replicate N false).set 0 true) ∧ Below w.heap.size w W) ⟨HS.out.1.setOther (a := ⟨w.heap.size + 1, 0, none⟩) (by simp) _, HS.out.2.1.set 0 true, HS.out.2.2.setCell (p := ⟨w.heap.size + 1, 0, none⟩) (by simp) _⟩ (fun w0 h0 => ?_)
  clear HS hb0 hz0
  go_loopw [7] (fun i wr => ∃ (t : Nat) (ks : List Bool) (L : List Int), t ≤ N ∧ i = .int .i64 t ∧ Known N rs P t 0 ks L ∧ Own wr w.heap.size 3 1 N N L ∧ Bools wr (w.heap.size + 1) ks ∧ Below w.heap.size w wr) (fun i _ => N - (intOf i).toNat)
  case atStart => obtain ⟨a1, a2, a3⟩ := h0; exact ⟨0, _, _, Nat.zero_le _, rfl, Known.start (by omega) HP.out.1, by rw [Nat.mul_one] at a1; exact a1, a2, a3⟩
  case round =>
    clear h0
    obtain ⟨t, ks, L, ht, rfl, hkn, how, hfl, hbr⟩ := hrel
    have HK := Lib.hid hkn
    clear hkn
    have HO := Lib.hid (And.intro how (And.intro hfl hbr))
    clear how hfl hbr
    by_cases hlt : t < N
    · go_wp2_with fail
      go_loopw [8] (fun i wr => ∃ (k : Nat) (ks : List Bool) (L : List Int), k ≤ m ∧ i = .int .i64 k ∧ Known N rs P t k ks L ∧ Own wr w.heap.size 3 1 N N L ∧ Bools wr (w.heap.size + 1) ks ∧ Below w.heap.size w wr) (fun i _ => m - (intOf i).toNat)
      case atStart => exact ⟨0, ks, L, Nat.zero_le _, rfl, HK.out, HO.out.1, HO.out.2.1, HO.out.2.2⟩
      case round =>
        clear HO HK
        rename World => wq
        obtain ⟨k, ks, L, hk, rfl, hkn, how, hfl, hbr⟩ := hrel
        have hbs := hbr.size
        have hlf := hfl.lt
        by_cases hlt2 : k < m
        · obtain ⟨D, o, r, rfl, hr, hD, x0, x1, x2, x3⟩ := (H.out.1.below hbr).at (i := k) (by have := H.out.2.1; omega)
          obtain ⟨q0, q1, q2, q3, q4, q5, q6, -⟩ := rOk_true (H.out.2.2 k r hr)
          obtain ⟨a, ha⟩ : ∃ a : Nat, r.f = (a : Int) := ⟨r.f.toNat, by omega⟩
          obtain ⟨b, hb⟩ : ∃ b : Nat, r.t = (b : Int) := ⟨r.t.toNat, by omega⟩
          have haN : a < N := by omega
          have hbN : b < N := by omega
          have haN' : (a : Int) < (N : Int) := by omega
          have hbN' : (b : Int) < (N : Int) := by omega
          have hab : ¬ a = b := by omega
          have hba : ¬ b = a := by omega
          have hLl := how.len
          have v1 := how.cells (htAt_get (L := L) (x := (a : Int)) (by omega) (by omega))
          have v2 := how.cells (htAt_get (L := L) (x := (b : Int)) (by omega) (by omega))
          rw [Int.toNat_natCast] at v1 v2
          obtain ⟨ba, g1⟩ : ∃ x, ks[a]? = some x := ⟨_, List.getElem?_eq_getElem (by have := hkn.len; omega)⟩
          obtain ⟨bb, g2⟩ : ∃ x, ks[b]? = some x := ⟨_, List.getElem?_eq_getElem (by have := hkn.len; omega)⟩
          have k1 := hfl.cell g1
          have k2 := hfl.cell g2
          have f1 := hfl.frozen a
          have f2 := hfl.frozen b
          have f3 := how.frozen a
          have f4 := how.frozen b
          rw [ha] at x0
          rw [hb] at x1
          have HO := Lib.hid (And.intro how (And.intro hfl hbr))
          have HR := Lib.hid (And.intro hkn (And.intro hr (And.intro g1 (And.intro g2 (And.intro (show r.f.toNat = a by omega) (And.intro (show r.t.toNat = b by omega) (show P b - P a = r.s by rw [← ha, ← hb]; exact HP.out.2.1 r (List.mem_of_getElem? hr))))))))
          have HV1 : ba = true → -600000 ≤ htAt L (a : Int) ∧ htAt L (a : Int) ≤ 600000 := fun e => hkn.bound hN6 (by omega) (by rw [Int.toNat_natCast, g1, e])
          have HV2 : bb = true → -600000 ≤ htAt L (b : Int) ∧ htAt L (b : Int) ≤ 600000 := fun e => hkn.bound hN6 (by omega) (by rw [Int.toNat_natCast, g2, e])
          have HP1 : Hid (ba = true → htAt L (a : Int) = P a) := Lib.hid (fun e => hkn.pot a (by rw [g1, e]))
          have HP2 : Hid (bb = true → htAt L (b : Int) = P b) := Lib.hid (fun e => hkn.pot b (by rw [g2, e]))
          clear how hfl hbr hr ha hb q0 q1 q2 q3 q4 hLl hkn g1 g2
          cases ba <;> cases bb
          · go_wp2_with fail
            go_roundw
            case rel => exact ⟨k + 1, ks, L, by omega, by go_num, HR.out.1.same HR.out.2.1 (by rw [HR.out.2.2.2.2.1, HR.out.2.2.2.2.2.1, HR.out.2.2.1, HR.out.2.2.2.1]), HO.out.1.alloc _, HO.out.2.1.alloc _, HO.out.2.2.alloc hbs _⟩
            case measure => simp [intOf]; omega
          · go_wp2_with fail
            refine gen_world (fun W => (Own W w.heap.size 3 1 N N L ∧ Bools W (w.heap.size + 1) (ks.set a true) ∧ Below w.heap.size w W) ∧ (W.cell? ⟨wq.heap.size, 0, none⟩ = some (.int .i64 a) ∧ W.cell? ⟨wq.heap.size, 1, none⟩ = some (.int .i64 b) ∧ W.cell? ⟨wq.heap.size, 2, none⟩ = some (.int .i64 r.s) ∧ wq.heap.size < W.heap.size) ∧ W.cell? ⟨w.heap.size + 1, a, none⟩ = some (.bool true) ∧ W.cell? ⟨w.heap.size + 1, b, none⟩ = some (.bool true)) ⟨⟨?_, ?_, ?_⟩, ⟨?_, ?_, ?_, ?_⟩, ?_, ?_⟩ (fun w5 h5 => ?_)
            · first | exact (HO.out.1.setOther (a := ⟨w.heap.size + 1, a, none⟩) (by simp) _).alloc _ | exact (HO.out.1.alloc _).setOther (a := ⟨w.heap.size + 1, a, none⟩) (by simp) _
            · first | exact (HO.out.2.1.set a true).alloc _ | exact (HO.out.2.1.alloc _).set a true
            · have hb5 := HO.out.2.2
              first | exact (hb5.setCell (p := ⟨w.heap.size + 1, a, none⟩) (by simp) _).alloc (by simp; omega) _ | exact (hb5.alloc hbs _).setCell (p := ⟨w.heap.size + 1, a, none⟩) (by simp) _
            · simp [*, go_sem]
            · simp [*, go_sem]
            · simp [*, go_sem]
            · simp [*, go_sem]
            · simp [*, go_sem]
            · simp [*, go_sem]
            obtain ⟨⟨o5, l5, b5⟩, ⟨u0, u1, u2, hX⟩, ka, kb⟩ := h5
            obtain ⟨hv0, hv1⟩ := HV2 (by trivial)
            have hLl := o5.len
            have y1 := o5.cells (htAt_get (L := L) (x := (a : Int)) (by omega) (by omega))
            have y2 := o5.cells (htAt_get (L := L) (x := (b : Int)) (by omega) (by omega))
            rw [Int.toNat_natCast] at y1 y2
            have hlo5 := o5.lt
            have hlf5 := l5.lt
            have hbs5 := b5.size
            have O5 := Lib.hid (And.intro o5 (And.intro l5 (And.intro b5 hLl)))
            clear o5 l5 b5 hLl v1 v2 k1 k2 f1 f2 f3 f4 x0 x1 x2 x3 HO
            (refine wp_region_grows_tail 12 (by kernel_rfl) (by kernel_rfl) ?_; simp only [List.take_succ_cons, List.take_zero, List.drop_succ_cons, List.drop_zero]; intro W_wg hWc_wg hWs_wg hWe_wg; (repeat (go_big_quiet_step (fail))); with_reducible refine wpQuiet_nil ?_; clear hWe_wg hWs_wg hWc_wg W_wg; intro wg hb_wg; obtain ⟨hc_wg, hf_wg⟩ := bcell hb_wg; (try simp only [World.size_drew, World.cell?_drew, World.frozen?_drew, World.heap_drewN, World.cell?_drewN, World.frozen?_drewN] at hc_wg hf_wg); have hs_wg := hb_wg.size; (try simp at hs_wg))
            have og := O5.out.1.below hb_wg
            have fg := og.frozen a
            have hlg := og.lt
            have z1 : wg.cell? ⟨w.heap.size, a, none⟩ = _ := (hc_wg _ a hlo5).trans y1
            have z2 : wg.cell? ⟨w.heap.size, b, none⟩ = _ := (hc_wg _ b hlo5).trans y2
            have t0 : wg.cell? ⟨wq.heap.size, 0, none⟩ = _ := (hc_wg _ 0 hX).trans u0
            have t1 : wg.cell? ⟨wq.heap.size, 1, none⟩ = _ := (hc_wg _ 1 hX).trans u1
            have t2 : wg.cell? ⟨wq.heap.size, 2, none⟩ = _ := (hc_wg _ 2 hX).trans u2
            have t3 : wg.cell? ⟨w.heap.size + 1, a, none⟩ = _ := (hc_wg _ a hlf5).trans ka
            have t4 : wg.cell? ⟨w.heap.size + 1, b, none⟩ = _ := (hc_wg _ b hlf5).trans kb
            have hnX : ¬ wq.heap.size = w.heap.size := by omega
            have OG := Lib.hid og
            clear og hc_wg hf_wg y1 y2 u0 u1 u2 ka kb
            go_wp2_with fail
            go_roundw
            case rel => exact ⟨k + 1, ks.set a true, L.set a (htAt L (b : Int) - r.s), by omega, by go_num, HR.out.1.more (x := b) HR.out.2.2.2.1 HR.out.2.2.1 (by have := HR.out.2.2.2.2.2.2; have := HP2.out (by trivial); omega) (by omega), OG.out.set a _ (by have := O5.out.2.2.2; omega), (O5.out.2.1.below hb_wg).setOther (by simp) _, (O5.out.2.2.1.trans (hb_wg.mono hbs5)).setCell (Nat.le_refl _) _⟩
            case measure => simp [intOf]; omega
          · go_wp2_with fail
            refine gen_world (fun W => (Own W w.heap.size 3 1 N N L ∧ Bools W (w.heap.size + 1) (ks.set b true) ∧ Below w.heap.size w W) ∧ (W.cell? ⟨wq.heap.size, 0, none⟩ = some (.int .i64 a) ∧ W.cell? ⟨wq.heap.size, 1, none⟩ = some (.int .i64 b) ∧ W.cell? ⟨wq.heap.size, 2, none⟩ = some (.int .i64 r.s) ∧ wq.heap.size < W.heap.size) ∧ W.cell? ⟨w.heap.size + 1, a, none⟩ = some (.bool true) ∧ W.cell? ⟨w.heap.size + 1, b, none⟩ = some (.bool true)) ⟨⟨?_, ?_, ?_⟩, ⟨?_, ?_, ?_, ?_⟩, ?_, ?_⟩ (fun w5 h5 => ?_)
            · first | exact (HO.out.1.setOther (a := ⟨w.heap.size + 1, b, none⟩) (by simp) _).alloc _ | exact (HO.out.1.alloc _).setOther (a := ⟨w.heap.size + 1, b, none⟩) (by simp) _
            · first | exact (HO.out.2.1.set b true).alloc _ | exact (HO.out.2.1.alloc _).set b true
            · have hb5 := HO.out.2.2
              first | exact (hb5.setCell (p := ⟨w.heap.size + 1, b, none⟩) (by simp) _).alloc (by simp; omega) _ | exact (hb5.alloc hbs _).setCell (p := ⟨w.heap.size + 1, b, none⟩) (by simp) _
            · simp [*, go_sem]
            · simp [*, go_sem]
            · simp [*, go_sem]
            · simp [*, go_sem]
            · simp [*, go_sem]
            · simp [*, go_sem]
            obtain ⟨⟨o5, l5, b5⟩, ⟨u0, u1, u2, hX⟩, ka, kb⟩ := h5
            obtain ⟨hv0, hv1⟩ := HV1 (by trivial)
            have hLl := o5.len
            have y1 := o5.cells (htAt_get (L := L) (x := (a : Int)) (by omega) (by omega))
            have y2 := o5.cells (htAt_get (L := L) (x := (b : Int)) (by omega) (by omega))
            rw [Int.toNat_natCast] at y1 y2
            have hlo5 := o5.lt
            have hlf5 := l5.lt
            have hbs5 := b5.size
            have O5 := Lib.hid (And.intro o5 (And.intro l5 (And.intro b5 hLl)))
            clear o5 l5 b5 hLl v1 v2 k1 k2 f1 f2 f3 f4 x0 x1 x2 x3 HO
            (refine wp_region_grows_tail 12 (by kernel_rfl) (by kernel_rfl) ?_; simp only [List.take_succ_cons, List.take_zero, List.drop_succ_cons, List.drop_zero]; intro W_wg hWc_wg hWs_wg hWe_wg; (repeat (go_big_quiet_step (fail))); with_reducible refine wpQuiet_nil ?_; clear hWe_wg hWs_wg hWc_wg W_wg; intro wg hb_wg; obtain ⟨hc_wg, hf_wg⟩ := bcell hb_wg; (try simp only [World.size_drew, World.cell?_drew, World.frozen?_drew, World.heap_drewN, World.cell?_drewN, World.frozen?_drewN] at hc_wg hf_wg); have hs_wg := hb_wg.size; (try simp at hs_wg))
            have og := O5.out.1.below hb_wg
            have fg := og.frozen b
            have hlg := og.lt
            have z1 : wg.cell? ⟨w.heap.size, a, none⟩ = _ := (hc_wg _ a hlo5).trans y1
            have z2 : wg.cell? ⟨w.heap.size, b, none⟩ = _ := (hc_wg _ b hlo5).trans y2
            have t0 : wg.cell? ⟨wq.heap.size, 0, none⟩ = _ := (hc_wg _ 0 hX).trans u0
            have t1 : wg.cell? ⟨wq.heap.size, 1, none⟩ = _ := (hc_wg _ 1 hX).trans u1
            have t2 : wg.cell? ⟨wq.heap.size, 2, none⟩ = _ := (hc_wg _ 2 hX).trans u2
            have t3 : wg.cell? ⟨w.heap.size + 1, a, none⟩ = _ := (hc_wg _ a hlf5).trans ka
            have t4 : wg.cell? ⟨w.heap.size + 1, b, none⟩ = _ := (hc_wg _ b hlf5).trans kb
            have hnX : ¬ wq.heap.size = w.heap.size := by omega
            have OG := Lib.hid og
            clear og hc_wg hf_wg y1 y2 u0 u1 u2 ka kb
            go_wp2_with fail
            go_roundw
            case rel => exact ⟨k + 1, ks.set b true, L.set b (htAt L (a : Int) + r.s), by omega, by go_num, HR.out.1.more (x := a) HR.out.2.2.1 HR.out.2.2.2.1 (by have := HR.out.2.2.2.2.2.2; have := HP1.out (by trivial); omega) (by omega), OG.out.set b _ (by have := O5.out.2.2.2; omega), (O5.out.2.1.below hb_wg).setOther (by simp) _, (O5.out.2.2.1.trans (hb_wg.mono hbs5)).setCell (Nat.le_refl _) _⟩
            case measure => simp [intOf]; omega
          · go_wp2_with fail
            go_roundw
            case rel => exact ⟨k + 1, ks, L, by omega, by go_num, HR.out.1.same HR.out.2.1 (by rw [HR.out.2.2.2.2.1, HR.out.2.2.2.2.2.1, HR.out.2.2.1, HR.out.2.2.2.1]), HO.out.1.alloc _, HO.out.2.1.alloc _, HO.out.2.2.alloc hbs _⟩
            case measure => simp [intOf]; omega
        · have e : k = m := by omega
          subst e
          have HO := Lib.hid (And.intro how (And.intro hfl hbr))
          have HK : Hid (Known N rs P t rs.length ks L) := Lib.hid (by rw [H.out.2.1]; exact hkn)
          clear how hfl hbr hkn
          go_wp2_with fail
          go_roundw
          case rel => exact ⟨t + 1, ks, L, by omega, by go_num, HK.out.next (by omega) (nOk_ends HP.out.2.2.2) (fun i hi => whole_same HP.out.2.2.1 hi), HO.out.1, HO.out.2.1, HO.out.2.2⟩
          case measure => simp [intOf]; omega
    · have e : t = N := by omega
      subst e
      go_wp2_with fail
      go_ret
      exact ⟨L, w.heap.size, rfl, HK.out.done (by omega) (nOk_ends HP.out.2.2.2) HP.out.1 HP.out.2.1, Nat.le_refl _, HO.out.1, HO.out.2.2⟩


set_option maxHeartbeats 2000000 in
theorem sTreeHeights_yes (N m k : Nat) (p q : Option Addr) (c d : Nat) (rs : List Rn) (T : List Int) (w : World) (h : Runs w p rs) (hq : Ints w q T) (hm : rs.length = m) (hk : T.length = k) (ht : IsTree N rs T) :
    Calls Try.prog 31 #[.int .i64 N, .slice p m c, .slice q k d] w fun e w' => ∃ (L : List Int) (g : Nat), e = .returned (.tuple #[.slice (some ⟨g, 0, none⟩) N N, .bool true]) ∧ IsHt N (sub rs T) L ∧ w.heap.size ≤ g ∧ Own w' g 3 1 N N L ∧ Below w.heap.size w w' := by
  have hn := ht.ok
  have hl12 := (nOk_true hn).2.2.1
  have hn6 := (nOk_true hn).2.1
  have hkN := ht.len
  have hsl : (sub rs T).length = k := by rw [sub_len]; exact hk
  have c1 := fun w h hq => Lib.hid (sTreeIs_at N m k p q c d rs T true w h hq hm hk (by omega) (by omega) (isT_true.2 ht))
  have c2 := fun w h hq => Lib.hid (sSome p q c d m k rs T w h hq hm hk ht.asc (by omega))
  have c3 := fun w p c h => Lib.hid (sHeights_at N k p c (sub rs T) w h hsl ht.whole ht.rk)
  have H := Lib.hid (And.intro h hq)
  clear h hq hm ht hn hk hsl hl12 hkN
  go_enter Try.func31, Try.ntmps31
  go_wp2_with (first | (go_at_call 16; (with_reducible refine ((c1 _ ?_ ?_).out).mono ?_); (focus ((exact H.out.1); done)); (focus ((exact H.out.2); done)); rintro e wa ⟨rfl, hb_wa⟩; have hs_wa := hb_wa.size; (try simp at hs_wa)) | (go_at_call 53; (with_reducible refine ((c2 _ ?_ ?_).out).mono ?_); (focus (exact H.out.1.below hb_wa; done)); (focus (exact H.out.2.below hb_wa; done)); rintro e ws ⟨gs, cs, rfl, hgs, os, hb_ws⟩; have hs_ws := hb_ws.size; have OS := Lib.hid os; clear os) | (go_at_call 62; (with_reducible refine ((c3 _ _ _ ?_).out).mono ?_); (focus (exact OS.out.runs; done)); rintro e wh ⟨L, g, rfl, hht, hg, oh, hb_wh⟩; have HHT := Lib.hid hht; clear hht; have hs_wh := hb_wh.size))
  exact bodyPost_ret (v := .tuple #[.slice (some ⟨g, 0, none⟩) N N, .bool true]) (by simp [results, Try.results31, go_sem]) rfl ⟨L, g, rfl, HHT.out, by omega, oh, (by repeat (first | assumption | exact Below.refl _ _ | (refine below_chain ?_ (by assumption) (by first | omega | (simp <;> omega) | simp)) | (refine Below.alloc ?_ (by first | omega | (simp <;> omega) | simp) _) | (apply below_drewN) | (apply below_drew) | (refine Below.setCell ?_ (by first | omega | (simp <;> omega) | simp) _)))⟩
set_option maxHeartbeats 2000000 in
theorem sTreeHeights_no (n : Int) (m k : Nat) (p q : Option Addr) (c d : Nat) (rs : List Rn) (T : List Int) (w : World) (h : Runs w p rs) (hq : Ints w q T) (hm : rs.length = m) (hk : T.length = k) (hl : m ≤ 4000000000000000000) (hl2 : k ≤ 4000000000000000000) (ht : isT n rs T = false) :
    Calls Try.prog 31 #[.int .i64 n, .slice p m c, .slice q k d] w fun e w' => (∃ g, e = .returned (.tuple #[.slice (some ⟨g, 0, none⟩) 0 0, .bool false])) ∧ Below w.heap.size w w' := by
  have c1 := fun w h hq => Lib.hid (sTreeIs_at n m k p q c d rs T false w h hq hm hk hl hl2 ht)
  have H := Lib.hid (And.intro h hq)
  clear h hq hm hk ht
  go_enter Try.func31, Try.ntmps31
  go_wp2_with ((go_at_call 16; (with_reducible refine ((c1 _ ?_ ?_).out).mono ?_); (focus ((exact H.out.1); done)); (focus ((exact H.out.2); done)); rintro e wa ⟨rfl, hb_wa⟩; have hs_wa := hb_wa.size; (try simp at hs_wa)))
  exact bodyPost_ret (v := .tuple #[.slice (some ⟨wa.heap.size, 0, none⟩) 0 0, .bool false]) (by simp [results, Try.results31, go_sem]) rfl ⟨⟨_, rfl⟩, (by repeat (first | assumption | exact Below.refl _ _ | (refine below_chain ?_ (by assumption) (by first | omega | (simp <;> omega) | simp)) | (refine Below.alloc ?_ (by first | omega | (simp <;> omega) | simp) _) | (apply below_drewN) | (apply below_drew) | (refine Below.setCell ?_ (by first | omega | (simp <;> omega) | simp) _)))⟩
end Go.Proofs.Ytgbnnepbnahecaa
