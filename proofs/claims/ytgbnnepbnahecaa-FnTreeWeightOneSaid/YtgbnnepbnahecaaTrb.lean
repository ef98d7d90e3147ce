/-
  The reference model's heights of a tree.
-/
import Derived.Test.YtgbnnepbnahecaaTra
import Derived.Test.YtgbnnepbnahecaaNm
namespace Go.Proofs.Ytgbnnepbnahecaa
open Go.RowKit
set_option linter.unusedVariables false

/-- the block g is a row of n bools -/
def Flags (w : World) (g n : Nat) : Prop := ∃ cur : Array Value, w.heap[g]? = some (.cells cur 4 (0, 0)) ∧ cur.size = n ∧ ∀ i, i < n → ∃ b, cur[i]? = some (.bool b)
section
variable {w w' : World} {g n : Nat}
theorem Flags.lt (h : Flags w g n) : g < w.heap.size := by obtain ⟨_, hg, _⟩ := h; exact (Array.getElem?_eq_some_iff.1 hg).1
theorem Flags.cell (h : Flags w g n) {i : Nat} (hi : i < n) : ∃ b, w.cell? ⟨g, i, none⟩ = some (.bool b) := by
  obtain ⟨cur, hg, hs, hc⟩ := h
  obtain ⟨b, hb⟩ := hc i hi
  exact ⟨b, by rw [Joins.cell_of_block hg]; exact hb⟩
theorem Flags.frozen (h : Flags w g n) (i : Nat) : w.frozen? ⟨g, i, none⟩ = false := by obtain ⟨_, hg, _⟩ := h; exact Joins.unfrozen_of_block hg i
theorem Flags.block (h : Flags w g n) (e : w'.heap[g]? = w.heap[g]?) : Flags w' g n := by obtain ⟨cur, hg, hs, hc⟩ := h; exact ⟨cur, e.trans hg, hs, hc⟩
theorem Flags.below (h : Flags w g n) (hb : Below w.heap.size w w') : Flags w' g n := h.block (hb.block _ h.lt)
theorem Flags.alloc (h : Flags w g n) (o : Obj) : Flags (w.alloc o) g n := h.block (Deep.blk_alloc_lt _ _ _ h.lt)
theorem Flags.setOther (h : Flags w g n) {a : Addr} (ha : g ≠ a.block) (v : Value) : Flags (w.setCell a v) g n := h.block (Deep.blk_setCell_other _ _ _ _ ha)
theorem Flags.set (h : Flags w g n) (i : Nat) (b : Bool) : Flags (w.setCell ⟨g, i, none⟩ (.bool b)) g n := by
  obtain ⟨cur, hg, hs, hc⟩ := h
  refine ⟨_, Joins.block_setCell hg _, by simpa using hs, fun j hj => ?_⟩
  rw [Array.getElem?_setIfInBounds]
  split
  · split
    · exact ⟨b, rfl⟩
    · rename_i e hn; subst e; omega
  · exact hc j hj
theorem Flags.made (w : World) (n : Nat) : Flags (w.alloc (.cells (madeCells #[.bool false] n) 4)) w.heap.size n :=
  ⟨_, Deep.blk_alloc_new _ _, size_madeCells _ _, fun i hi => ⟨false, by simp [madeCells, hi, Nat.mod_one]⟩⟩
end
theorem info_bool : (Try.prog.info? 4).map (fun i => (i.zero, i.size, i.bytes)) = some (some (.bool false), 1, 1) := by kernel_rfl
theorem made_bools (w : World) (n : Nat) (hn : n ≤ 1048576) : (Instr.makeSlice 68 (.int .i64 (n : Int)) (.int .i64 (n : Int))).run Try.prog w = .ok (.slice (some ⟨w.heap.size, 0, none⟩) n n) (w.alloc (.cells (madeCells #[.bool false] n) 4)) := by
  obtain ⟨i, hi, hzz⟩ := Option.map_eq_some_iff.1 info_bool
  simp only [Prod.mk.injEq] at hzz
  obtain ⟨hz, hs, hb⟩ := hzz
  have := run_make (P := Try.prog) w 68 4 i _ Try.underlying68 hi hz .i64 .i64 n n (by omega) (Int.le_refl _) (by rw [hb]; omega) (by omega)
  simp only [Int.toNat_natCast, hs, Nat.mul_one] at this
  exact this

set_option maxHeartbeats 4000000 in
theorem sTreeIs (N m k : Nat) (p q : Option Addr) (c d : Nat) (rs : List Rn) (T : List Int) (w : World) (h : Runs w p rs) (hq : Ints w q T) (hm : rs.length = m) (hk : T.length = k) (hF : First N rs rs.length T) (hw : nWhole N rs = true) :
    Calls Try.prog 16 #[.int .i64 N, .slice p m c, .slice q k d] w fun e w' => e = .returned (.bool true) ∧ Below w.heap.size w w' := by
  have hn : nOk N rs = true := by unfold nWhole at hw; simp at hw; exact hw.1
  obtain ⟨hn2, hn6, hl12, -⟩ := nOk_true hn
  obtain ⟨hk1, hwT⟩ := hF.whole hw
  have hm12 : m ≤ 12 := by omega
  have hasc : Asc rs.length T := hF.asc
  have c1 := fun w h => Lib.hid (sValid_at (p := p) (c := c) w hm h (by omega) hn)
  have c2 := fun w h hq => Lib.hid (sSome p q c d m k rs T w h hq hm hk hasc (by omega))
  have c3 := fun w p c h => Lib.hid (sWhole_at (p := p) (c := c) (m := k) w (by rw [sub_len]; exact hk) h (by omega) hwT)
  have hk5 : k ≤ 5 := by omega
  have hkn : ((k : Int) == (N : Int) - 1) = true := by
    have : (k : Int) = (N : Int) - 1 := by omega
    simpa using this
  have H := Lib.hid (And.intro h (And.intro hq (And.intro hm (And.intro hk hasc))))
  clear h hq hm hF hw hn hk hasc hk1 hwT
  go_enter Try.func16, Try.ntmps16
  go_wp2_with ((go_at_call 50; (with_reducible refine ((c1 _ ?_).out).mono ?_); (focus ((exact H.out.1); done)); rintro e wa ⟨rfl, hb_wa⟩; have hs_wa := hb_wa.size; (try simp at hs_wa)))
  clear c1 hkn
  rename_i hh KK aa
  clear hh
  go_loopw [7, 8] (fun v i wr => ∃ (j : Nat) (t : Int), j ≤ k ∧ i = .int .i64 j ∧ v = .int .i64 t ∧ (-1 ≤ t ∧ t ≤ 12) ∧ (∀ z, T[j]? = some z → t + 1 ≤ z) ∧ wa = wr) (fun _ i _ => k - (intOf i).toNat)
  case atStart => exact ⟨0, -1, Nat.zero_le _, rfl, rfl, ⟨by omega, by omega⟩, fun z hz => by have := H.out.2.2.2.2.rng z (List.mem_of_getElem? hz); omega, rfl⟩
  case round =>
    obtain ⟨j, t, hj, rfl, rfl, ⟨ht, ht2⟩, hnx, rfl⟩ := hrel
    by_cases hlt : j < k
    · obtain ⟨B, o, z, rfl, hz, hB, e0⟩ := (H.out.2.1.below hb_wa).at (i := j) (by have := H.out.2.2.2.1; omega)
      obtain ⟨z0, z1⟩ := H.out.2.2.2.2.rng z (List.mem_of_getElem? hz)
      have h1 := hnx z hz
      have hzm : z < (m : Int) := by have := H.out.2.2.1; omega
      have ci := fun w => Lib.hid (nIn z (t + 1) ((m : Int) - 1) true w (by simp; omega))
      have HX : Hid (∀ y, T[j + 1]? = some y → z + 1 ≤ y) := Lib.hid (fun y hy => by
        have hp := H.out.2.2.2.2.up
        rw [List.pairwise_iff_getElem] at hp
        obtain ⟨hl1, hz'⟩ := List.getElem?_eq_some_iff.1 hz
        obtain ⟨hl2, hy'⟩ := List.getElem?_eq_some_iff.1 hy
        have := hp j (j + 1) hl1 hl2 (by omega)
        rw [hz', hy'] at this
        omega)
      clear hz hnx
      go_wp2_with ((go_at_call 51; (with_reducible refine ((ci _).out).mono ?_); rintro e w' ⟨rfl, rfl⟩))
      go_roundw
      case rel => exact ⟨j + 1, z, by omega, by go_num, rfl, ⟨by omega, by omega⟩, HX.out, by first | trivial | rfl⟩
      case measure => simp [intOf]; omega
    · have e : j = k := by omega
      subst e
      clear hnx
      go_wp2_with (first | (go_at_call 53; (with_reducible refine ((c2 _ ?_ ?_).out).mono ?_); (focus (exact H.out.1.below hb_wa; done)); (focus (exact H.out.2.1.below hb_wa; done)); rintro e ws ⟨gs, cs, rfl, hgs, os, hb_ws⟩; have hs_ws := hb_ws.size; have OS := Lib.hid os; clear os) | (go_at_call 52; (with_reducible refine ((c3 _ _ _ ?_).out).mono ?_); (focus ((exact OS.out.runs); done)); rintro e wz ⟨rfl, hb_wz⟩; have hs_wz := hb_wz.size; (try simp at hs_wz)))
      go_ret
      exact ⟨rfl, (by repeat (first | assumption | exact Below.refl _ _ | (refine below_chain ?_ (by assumption) (by first | omega | (simp <;> omega) | simp)) | (refine Below.alloc ?_ (by first | omega | (simp <;> omega) | simp) _) | (apply below_drewN) | (apply below_drew) | (refine Below.setCell ?_ (by first | omega | (simp <;> omega) | simp) _)))⟩

set_option maxHeartbeats 8000000 in
set_option maxRecDepth 100000 in
theorem sHeights (N m : Nat) (p : Option Addr) (c : Nat) (rs : List Rn) (w : World) (h : Runs w p rs) (hm : rs.length = m) (hn : nOk N rs = true) :
    Calls Try.prog 62 #[.int .i64 N, .slice p m c] w fun e w' => ∃ (L : List Int) (g : Nat), e = .returned (.slice (some ⟨g, 0, none⟩) N N) ∧ w.heap.size ≤ g ∧ Own w' g 3 1 N N L ∧ Below w.heap.size w w' := by
  obtain ⟨hn2, hn6, hl12, hall⟩ := nOk_true hn
  have hm12 : m ≤ 12 := by omega
  have H := Lib.hid (And.intro h (And.intro hm hall))
  have hmi := fun w => made_ints w N (by omega)
  have hmb := fun w => made_bools w N (by omega)
  have HO0 := Lib.hid (Own.made w 3 N 1 (by decide) (by unfold maxLen; omega))
  have HF0 := fun w => Lib.hid (Flags.made w N)
  have hlN : (0 : Int) < (N : Int) := by omega
  clear h hm hn hall hl12
  go_enter Try.func62, Try.ntmps62
  go_upto_region 3 with fail
  refine gen_world (fun W => Own W w.heap.size 3 1 N N (List.replicate (N * 1) 0) ∧ Flags W (w.heap.size + 1) N ∧ Below w.heap.size w W) ?_ (fun w1 h1 => ?_)
  · have hF1 := (HF0 (w.alloc (.cells (madeCells #[.int .i64 0] N) 3))).out
    have hO1 : Own (w.alloc (.cells (madeCells #[.int .i64 0] N) 3)) w.heap.size 3 1 N N (List.replicate (N * 1) 0) := by simpa using HO0.out
    exact ⟨hO1.alloc _, by simpa using hF1, (by repeat (first | assumption | exact Below.refl _ _ | (refine below_chain ?_ (by assumption) (by first | omega | (simp <;> omega) | simp)) | (refine Below.alloc ?_ (by first | omega | (simp <;> omega) | simp) _) | (apply below_drewN) | (apply below_drew) | (refine Below.setCell ?_ (by first | omega | (simp <;> omega) | simp) _)))⟩
  obtain ⟨ho1, hf1, hb1⟩ := h1
  obtain ⟨b0, hb0⟩ := hf1.cell (i := 0) (by omega)
  have hz0 := hf1.frozen 0
  have HS := Lib.hid (And.intro ho1 (And.intro hf1 hb1))
  clear hmi hmb HF0 HO0 ho1 hf1 hb1
  go_wp2_with fail
  refine gen_world (fun W => ∃ L : List Int, Own W w.heap.size 3 1 N N L ∧ Flags W (w.heap.size + 1) N ∧ Below w.heap.size w W) ⟨_, HS.out.1.setOther (a := ⟨w.heap.size + 1, 0, none⟩) (by simp) _, HS.out.2.1.set 0 true, HS.out.2.2.setCell (p := ⟨w.heap.size + 1, 0, none⟩) (by simp) _⟩ (fun w0 h0 => ?_)
  clear HS hb0 hz0
  go_loopw [7] (fun i wr => ∃ (t : Nat) (L : List Int), t ≤ N ∧ i = .int .i64 t ∧ Own wr w.heap.size 3 1 N N L ∧ Flags wr (w.heap.size + 1) N ∧ Below w.heap.size w wr) (fun i _ => N - (intOf i).toNat)
  case atStart => obtain ⟨L, a1, a2, a3⟩ := h0; exact ⟨0, L, Nat.zero_le _, rfl, a1, a2, a3⟩
  case round =>
    clear h0
    obtain ⟨t, L, ht, rfl, how, hfl, hbr⟩ := hrel
    have HO := Lib.hid (And.intro how (And.intro hfl hbr))
    clear how hfl hbr
    by_cases hlt : t < N
    · go_wp2_with fail
      go_loopw [8] (fun i wr => ∃ (k : Nat) (L : List Int), k ≤ m ∧ i = .int .i64 k ∧ Own wr w.heap.size 3 1 N N L ∧ Flags wr (w.heap.size + 1) N ∧ Below w.heap.size w wr) (fun i _ => m - (intOf i).toNat)
      case atStart => exact ⟨0, L, Nat.zero_le _, rfl, HO.out.1, HO.out.2.1, HO.out.2.2⟩
      case round =>
        clear HO
        rename World => wq
        obtain ⟨k, L, hk, rfl, how, hfl, hbr⟩ := hrel
        have hbs := hbr.size
        have hlf := hfl.lt
        by_cases hlt2 : k < m
        · obtain ⟨D, o, r, rfl, hr, hD, x0, x1, x2, x3⟩ := (H.out.1.below hbr).at (i := k) (by have := H.out.2.1; omega)
          obtain ⟨q0, q1, q2, q3, q4, -⟩ := rOk_true (H.out.2.2 k r hr)
          obtain ⟨a, ha⟩ : ∃ a : Nat, r.f = (a : Int) := ⟨r.f.toNat, by omega⟩
          obtain ⟨b, hb⟩ : ∃ b : Nat, r.t = (b : Int) := ⟨r.t.toNat, by omega⟩
          have haN : a < N := by omega
          have hbN : b < N := by omega
          have haN' : (a : Int) < (N : Int) := by omega
          have hbN' : (b : Int) < (N : Int) := by omega
          have hab : ¬ a = b := by omega
          have hba : ¬ b = a := by omega
          have hLl := how.len
          have v1 := how.cells (htAt_get (L := L) (x := (a : Int)) (by omega) (by omega))
          have v2 := how.cells (htAt_get (L := L) (x := (b : Int)) (by omega) (by omega))
          rw [Int.toNat_natCast] at v1 v2
          obtain ⟨ba, k1⟩ := hfl.cell haN
          obtain ⟨bb, k2⟩ := hfl.cell hbN
          have f1 := hfl.frozen a
          have f2 := hfl.frozen b
          have f3 := how.frozen a
          have f4 := how.frozen b
          rw [ha] at x0
          rw [hb] at x1
          have HO := Lib.hid (And.intro how (And.intro hfl hbr))
          generalize htAt L (a : Int) = va at v1
          generalize htAt L (b : Int) = vb at v2
          clear how hfl hbr hr ha hb q0 q1 q2 q3 q4 hLl
          cases ba <;> cases bb
          · go_wp2_with fail
            go_roundw
            case rel => exact ⟨k + 1, L, by omega, by go_num, HO.out.1.alloc _, HO.out.2.1.alloc _, HO.out.2.2.alloc hbs _⟩
            case measure => simp [intOf]; omega
          · go_wp2_with fail
            refine gen_world (fun W => (Own W w.heap.size 3 1 N N L ∧ Flags W (w.heap.size + 1) N ∧ Below w.heap.size w W) ∧ (W.cell? ⟨wq.heap.size, 0, none⟩ = some (.int .i64 a) ∧ W.cell? ⟨wq.heap.size, 1, none⟩ = some (.int .i64 b) ∧ W.cell? ⟨wq.heap.size, 2, none⟩ = some (.int .i64 r.s) ∧ wq.heap.size < W.heap.size) ∧ W.cell? ⟨w.heap.size + 1, a, none⟩ = some (.bool true) ∧ W.cell? ⟨w.heap.size + 1, b, none⟩ = some (.bool true)) ⟨⟨?_, ?_, ?_⟩, ⟨?_, ?_, ?_, ?_⟩, ?_, ?_⟩ (fun w5 h5 => ?_)
            · first | exact (HO.out.1.setOther (a := ⟨w.heap.size + 1, a, none⟩) (by simp) _).alloc _ | exact (HO.out.1.alloc _).setOther (a := ⟨w.heap.size + 1, a, none⟩) (by simp) _
            · first | exact (HO.out.2.1.set a true).alloc _ | exact (HO.out.2.1.alloc _).set a true
            · have hb5 := HO.out.2.2
              first | exact (hb5.setCell (p := ⟨w.heap.size + 1, a, none⟩) (by simp) _).alloc (by simp; omega) _ | exact (hb5.alloc hbs _).setCell (p := ⟨w.heap.size + 1, a, none⟩) (by simp) _
            · simp [*, go_sem]
            · simp [*, go_sem]
            · simp [*, go_sem]
            · simp [*, go_sem]
            · simp [*, go_sem]
            · simp [*, go_sem]
            obtain ⟨⟨o5, l5, b5⟩, ⟨u0, u1, u2, hX⟩, ka, kb⟩ := h5
            have hLl := o5.len
            have y1 := o5.cells (htAt_get (L := L) (x := (a : Int)) (by omega) (by omega))
            have y2 := o5.cells (htAt_get (L := L) (x := (b : Int)) (by omega) (by omega))
            rw [Int.toNat_natCast] at y1 y2
            have hlo5 := o5.lt
            have hlf5 := l5.lt
            have hbs5 := b5.size
            have O5 := Lib.hid (And.intro o5 (And.intro l5 (And.intro b5 hLl)))
            clear o5 l5 b5 hLl v1 v2 k1 k2 f1 f2 f3 f4 x0 x1 x2 x3 HO
            (refine wp_region_grows_tail 12 (by kernel_rfl) (by kernel_rfl) ?_; simp only [List.take_succ_cons, List.take_zero, List.drop_succ_cons, List.drop_zero]; intro W_wg hWc_wg hWs_wg hWe_wg; (repeat (go_big_quiet_step (fail))); with_reducible refine wpQuiet_nil ?_; clear hWe_wg hWs_wg hWc_wg W_wg; intro wg hb_wg; obtain ⟨hc_wg, hf_wg⟩ := bcell hb_wg; (try simp only [World.size_drew, World.cell?_drew, World.frozen?_drew, World.heap_drewN, World.cell?_drewN, World.frozen?_drewN] at hc_wg hf_wg); have hs_wg := hb_wg.size; (try simp at hs_wg))
            have og := O5.out.1.below hb_wg
            have fg := og.frozen a
            have hlg := og.lt
            have z1 : wg.cell? ⟨w.heap.size, a, none⟩ = _ := (hc_wg _ a hlo5).trans y1
            have z2 : wg.cell? ⟨w.heap.size, b, none⟩ = _ := (hc_wg _ b hlo5).trans y2
            have t0 : wg.cell? ⟨wq.heap.size, 0, none⟩ = _ := (hc_wg _ 0 hX).trans u0
            have t1 : wg.cell? ⟨wq.heap.size, 1, none⟩ = _ := (hc_wg _ 1 hX).trans u1
            have t2 : wg.cell? ⟨wq.heap.size, 2, none⟩ = _ := (hc_wg _ 2 hX).trans u2
            have t3 : wg.cell? ⟨w.heap.size + 1, a, none⟩ = _ := (hc_wg _ a hlf5).trans ka
            have t4 : wg.cell? ⟨w.heap.size + 1, b, none⟩ = _ := (hc_wg _ b hlf5).trans kb
            have hnX : ¬ wq.heap.size = w.heap.size := by omega
            have OG := Lib.hid og
            clear og hc_wg hf_wg y1 y2 u0 u1 u2 ka kb
            go_wp2_with fail
            go_roundw
            case rel => exact ⟨k + 1, L.set a _, by omega, by go_num, OG.out.set a _ (by have := O5.out.2.2.2; omega), (O5.out.2.1.below hb_wg).setOther (by simp) _, (O5.out.2.2.1.trans (hb_wg.mono hbs5)).setCell (Nat.le_refl _) _⟩
            case measure => simp [intOf]; omega
          · go_wp2_with fail
            refine gen_world (fun W => (Own W w.heap.size 3 1 N N L ∧ Flags W (w.heap.size + 1) N ∧ Below w.heap.size w W) ∧ (W.cell? ⟨wq.heap.size, 0, none⟩ = some (.int .i64 a) ∧ W.cell? ⟨wq.heap.size, 1, none⟩ = some (.int .i64 b) ∧ W.cell? ⟨wq.heap.size, 2, none⟩ = some (.int .i64 r.s) ∧ wq.heap.size < W.heap.size) ∧ W.cell? ⟨w.heap.size + 1, a, none⟩ = some (.bool true) ∧ W.cell? ⟨w.heap.size + 1, b, none⟩ = some (.bool true)) ⟨⟨?_, ?_, ?_⟩, ⟨?_, ?_, ?_, ?_⟩, ?_, ?_⟩ (fun w5 h5 => ?_)
            · first | exact (HO.out.1.setOther (a := ⟨w.heap.size + 1, b, none⟩) (by simp) _).alloc _ | exact (HO.out.1.alloc _).setOther (a := ⟨w.heap.size + 1, b, none⟩) (by simp) _
            · first | exact (HO.out.2.1.set b true).alloc _ | exact (HO.out.2.1.alloc _).set b true
            · have hb5 := HO.out.2.2
              first | exact (hb5.setCell (p := ⟨w.heap.size + 1, b, none⟩) (by simp) _).alloc (by simp; omega) _ | exact (hb5.alloc hbs _).setCell (p := ⟨w.heap.size + 1, b, none⟩) (by simp) _
            · simp [*, go_sem]
            · simp [*, go_sem]
            · simp [*, go_sem]
            · simp [*, go_sem]
            · simp [*, go_sem]
            · simp [*, go_sem]
            obtain ⟨⟨o5, l5, b5⟩, ⟨u0, u1, u2, hX⟩, ka, kb⟩ := h5
            have hLl := o5.len
            have y1 := o5.cells (htAt_get (L := L) (x := (a : Int)) (by omega) (by omega))
            have y2 := o5.cells (htAt_get (L := L) (x := (b : Int)) (by omega) (by omega))
            rw [Int.toNat_natCast] at y1 y2
            have hlo5 := o5.lt
            have hlf5 := l5.lt
            have hbs5 := b5.size
            have O5 := Lib.hid (And.intro o5 (And.intro l5 (And.intro b5 hLl)))
            clear o5 l5 b5 hLl v1 v2 k1 k2 f1 f2 f3 f4 x0 x1 x2 x3 HO
            (refine wp_region_grows_tail 12 (by kernel_rfl) (by kernel_rfl) ?_; simp only [List.take_succ_cons, List.take_zero, List.drop_succ_cons, List.drop_zero]; intro W_wg hWc_wg hWs_wg hWe_wg; (repeat (go_big_quiet_step (fail))); with_reducible refine wpQuiet_nil ?_; clear hWe_wg hWs_wg hWc_wg W_wg; intro wg hb_wg; obtain ⟨hc_wg, hf_wg⟩ := bcell hb_wg; (try simp only [World.size_drew, World.cell?_drew, World.frozen?_drew, World.heap_drewN, World.cell?_drewN, World.frozen?_drewN] at hc_wg hf_wg); have hs_wg := hb_wg.size; (try simp at hs_wg))
            have og := O5.out.1.below hb_wg
            have fg := og.frozen b
            have hlg := og.lt
            have z1 : wg.cell? ⟨w.heap.size, a, none⟩ = _ := (hc_wg _ a hlo5).trans y1
            have z2 : wg.cell? ⟨w.heap.size, b, none⟩ = _ := (hc_wg _ b hlo5).trans y2
            have t0 : wg.cell? ⟨wq.heap.size, 0, none⟩ = _ := (hc_wg _ 0 hX).trans u0
            have t1 : wg.cell? ⟨wq.heap.size, 1, none⟩ = _ := (hc_wg _ 1 hX).trans u1
            have t2 : wg.cell? ⟨wq.heap.size, 2, none⟩ = _ := (hc_wg _ 2 hX).trans u2
            have t3 : wg.cell? ⟨w.heap.size + 1, a, none⟩ = _ := (hc_wg _ a hlf5).trans ka
            have t4 : wg.cell? ⟨w.heap.size + 1, b, none⟩ = _ := (hc_wg _ b hlf5).trans kb
            have hnX : ¬ wq.heap.size = w.heap.size := by omega
            have OG := Lib.hid og
            clear og hc_wg hf_wg y1 y2 u0 u1 u2 ka kb
            go_wp2_with fail
            go_roundw
            case rel => exact ⟨k + 1, L.set b _, by omega, by go_num, OG.out.set b _ (by have := O5.out.2.2.2; omega), (O5.out.2.1.below hb_wg).setOther (by simp) _, (O5.out.2.2.1.trans (hb_wg.mono hbs5)).setCell (Nat.le_refl _) _⟩
            case measure => simp [intOf]; omega
          · go_wp2_with fail
            go_roundw
            case rel => exact ⟨k + 1, L, by omega, by go_num, HO.out.1.alloc _, HO.out.2.1.alloc _, HO.out.2.2.alloc hbs _⟩
            case measure => simp [intOf]; omega
        · have HO := Lib.hid (And.intro how (And.intro hfl hbr))
          clear how hfl hbr
          go_wp2_with fail
          go_roundw
          case rel => exact ⟨t + 1, L, by omega, by go_num, HO.out.1, HO.out.2.1, HO.out.2.2⟩
          case measure => simp [intOf]; omega
    · have e : t = N := by omega
      subst e
      go_wp2_with fail
      go_ret
      exact ⟨L, w.heap.size, rfl, Nat.le_refl _, HO.out.1, HO.out.2.2⟩

set_option maxHeartbeats 2000000 in
theorem sTreeHeights (N m k : Nat) (p q : Option Addr) (c d : Nat) (rs : List Rn) (T : List Int) (w : World) (h : Runs w p rs) (hq : Ints w q T) (hm : rs.length = m) (hk : T.length = k) (hF : First N rs rs.length T) (hw : nWhole N rs = true) :
    Calls Try.prog 31 #[.int .i64 N, .slice p m c, .slice q k d] w fun e w' => ∃ (L : List Int) (g : Nat), e = .returned (.tuple #[.slice (some ⟨g, 0, none⟩) N N, .bool true]) ∧ w.heap.size ≤ g ∧ Own w' g 3 1 N N L ∧ Below w.heap.size w w' := by
  have hn : nOk N rs = true := by unfold nWhole at hw; simp at hw; exact hw.1
  have hl12 := (nOk_true hn).2.2.1
  have hn6 := (nOk_true hn).2.1
  have hkN := (hF.whole hw).1
  have hsub := hF.sub_ok hn (Nat.le_refl _)
  have hsl : (sub rs T).length = k := by rw [sub_len]; exact hk
  have c1 := fun w h hq => Lib.hid (sTreeIs N m k p q c d rs T w h hq hm hk hF hw)
  have c2 := fun w h hq => Lib.hid (sSome p q c d m k rs T w h hq hm hk hF.asc (by omega))
  have c3 := fun w p c h => Lib.hid (sHeights N k p c (sub rs T) w h hsl hsub)
  have H := Lib.hid (And.intro h hq)
  clear h hq hm hF hw hn hk hsub hsl hl12 hkN
  go_enter Try.func31, Try.ntmps31
  go_wp2_with (first | (go_at_call 16; (with_reducible refine ((c1 _ ?_ ?_).out).mono ?_); (focus ((exact H.out.1); done)); (focus ((exact H.out.2); done)); rintro e wa ⟨rfl, hb_wa⟩; have hs_wa := hb_wa.size; (try simp at hs_wa)) | (go_at_call 53; (with_reducible refine ((c2 _ ?_ ?_).out).mono ?_); (focus (exact H.out.1.below hb_wa; done)); (focus (exact H.out.2.below hb_wa; done)); rintro e ws ⟨gs, cs, rfl, hgs, os, hb_ws⟩; have hs_ws := hb_ws.size; have OS := Lib.hid os; clear os) | (go_at_call 62; (with_reducible refine ((c3 _ _ _ ?_).out).mono ?_); (focus (exact OS.out.runs; done)); rintro e wh ⟨L, g, rfl, hg, oh, hb_wh⟩; have hs_wh := hb_wh.size))
  exact bodyPost_ret (v := .tuple #[.slice (some ⟨g, 0, none⟩) N N, .bool true]) (by simp [results, Try.results31, go_sem]) rfl ⟨L, g, rfl, by omega, oh, (by repeat (first | assumption | exact Below.refl _ _ | (refine below_chain ?_ (by assumption) (by first | omega | (simp <;> omega) | simp)) | (refine Below.alloc ?_ (by first | omega | (simp <;> omega) | simp) _) | (apply below_drewN) | (apply below_drew) | (refine Below.setCell ?_ (by first | omega | (simp <;> omega) | simp) _)))⟩
end Go.Proofs.Ytgbnnepbnahecaa
