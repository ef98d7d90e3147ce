/-
  The reference model's trees: the runs that a list of indexes names, and the first tree.
  The reference model's heights of a tree.
  The reference model's trees, for any list of indexes: TreeIs, TreeFirst, TreeHeights.
  The heights that the reference model finds for a tree.
-/
import Derived.Test.YtimghdffmdcheaaNTree
import Derived.Test.YtimghdffmdcheaaNg
import Derived.Test.YtimghdffmdcheaaDNa
import Derived.Test.YtimghdffmdcheaaNm
import Derived.Test.YtimghdffmdcheaaTmz
namespace Go.Proofs.Ytimghdffmdcheaa
open Go.RowKit
set_option linter.unusedVariables false

set_option maxHeartbeats 2000000 in
theorem sSome (p q : Option Addr) (c d m k : Nat) (rs : List Rn) (T : List Int) (w : World) (h : Runs w p rs) (hq : Ints w q T) (hm : rs.length = m) (hk : T.length = k) (ha : Asc rs.length T) (hl : k ≤ 100) :
    Calls Try.prog 87 #[.slice p m c, .slice q k d] w fun e w' => ∃ g cap, e = .returned (.slice (some ⟨g, 0, none⟩) k cap) ∧ w.heap.size ≤ g ∧ Own w' g 42 4 k cap (flat (sub rs T)) ∧ Below w.heap.size w w' := by
  have H := Lib.hid (And.intro h (And.intro hq (And.intro hm (And.intro hk ha))))
  have HE := Lib.hid (Own.empty w 42 4)
  clear h hq hm hk ha
  go_enter Try.func87, Try.ntmps87
  go_wp2_with fail
  go_loopw [5, 6] (fun v i wr => ∃ (j g cap : Nat), j ≤ k ∧ i = .int .i64 j ∧ v = .slice (some ⟨g, 0, none⟩) j cap ∧ w.heap.size ≤ g ∧ Own wr g 42 4 j cap (flat (sub rs (T.take j))) ∧ Below w.heap.size w wr) (fun _ i _ => k - (intOf i).toNat)
  case atStart => exact ⟨0, _, _, Nat.zero_le _, rfl, rfl, Nat.le_refl _, HE.out, (by repeat (first | assumption | exact Below.refl _ _ | (refine below_chain ?_ (by assumption) (by first | omega | (simp <;> omega) | simp)) | (refine Below.alloc ?_ (by first | omega | (simp <;> omega) | simp) _) | (apply below_drewN) | (apply below_drew) | (refine Below.setCell ?_ (by first | omega | (simp <;> omega) | simp) _)))⟩
  case round =>
    clear HE
    obtain ⟨j, g, cap, hj, rfl, rfl, hg, how, hbr⟩ := hrel
    have hbs := hbr.size
    have hlo := how.lt
    have HO := Lib.hid how
    clear how
    by_cases hlt : j < k
    · obtain ⟨B, o, z, rfl, hz, hB, e0⟩ := (H.out.2.1.below hbr).at (i := j) (by have := H.out.2.2.2.1; omega)
      obtain ⟨z0, z1⟩ := H.out.2.2.2.2.rng z (List.mem_of_getElem? hz)
      obtain ⟨a, rfl⟩ : ∃ a : Nat, z = (a : Int) := ⟨z.toNat, by omega⟩
      have ham : a < m := by have := H.out.2.2.1; omega
      have ham' : (a : Int) < (m : Int) := by omega
      obtain ⟨D, o', r, rfl, hr, hD, x0, x1, x2, x3⟩ := (H.out.1.below hbr).at (i := a) (by omega)
      have HZ := Lib.hid (And.intro hz hr)
      clear hz hr z0 z1
      go_wp2_with (at_builtin; refine wp_append _ rfl _ _ 23 rfl 42 _ 4 32 Try.underlying23 info_run rfl (by decide) (by decide) _ j cap _ rfl (HO.out.alloc _) _ _ _ _ rfl rfl (four_cells _ _ _ _ _ _) (by omega) ?_; intro g' cap' w' hown hgr hloc hsz; have HN := Lib.hid (And.intro hown (And.intro hgr hloc)); clear hown hgr hloc)
      go_roundw
      case rel =>
        obtain ⟨hown, hgr, hloc⟩ := HN.out
        obtain ⟨hz, hr⟩ := HZ.out
        have hg' : w.heap.size ≤ g' := by
          rcases hloc with rfl | rfl
          · exact hg
          · simp; omega
        have e : sub rs (T.take (j + 1)) = sub rs (T.take j) ++ [r] := by
          rw [List.take_add_one, hz]
          exact sub_snoc rs _ a hr
        exact ⟨j + 1, g', cap', by omega, by go_num, rfl, hg', by rw [e, flat_append]; simpa [flat] using hown, below_gr (hbr.alloc hbs _) hgr hg (by simp; omega)⟩
      case measure => simp [intOf]; omega
    · have e : j = k := by omega
      subst e
      go_wp2_with fail
      go_ret
      exact ⟨g, cap, rfl, hg, by have := HO.out; rwa [List.take_of_length_le (by have := H.out.2.2.2.1; omega)] at this, hbr⟩

theorem sLabels_at {N : Nat} {p : Option Addr} {c m : Nat} {rs : List Rn} (w : World) (hm : rs.length = m) (h : Runs w p rs) (hn : nOk N rs = true) :
    Calls Try.prog 86 #[.int .i64 N, .slice p m c] w fun e w' => ∃ v, e = .returned v ∧ NewInts w (labs N rs) v w' := by
  subst hm; exact sLabels N p c rs w h hn
theorem sWhole_at {N : Nat} {p : Option Addr} {c m : Nat} {rs : List Rn} {b : Bool} (w : World) (hm : rs.length = m) (h : Runs w p rs) (hl : m ≤ 100) (hb : nWhole N rs = b) :
    Calls Try.prog 72 #[.int .i64 N, .slice p m c] w fun e w' => e = .returned (.bool b) ∧ Below w.heap.size w w' := by
  subst hm; exact sWhole N p c rs b w h (by omega) hb
theorem sValid_at {N : Nat} {p : Option Addr} {c m : Nat} {rs : List Rn} {b : Bool} (w : World) (hm : rs.length = m) (h : Runs w p rs) (hl : m ≤ 100) (hb : nOk N rs = b) :
    Calls Try.prog 53 #[.int .i64 N, .slice p m c] w fun e w' => e = .returned (.bool b) ∧ Below w.heap.size w w' := by
  subst hm; exact sValid N p c rs b w h (by omega) hb

set_option maxHeartbeats 4000000 in
theorem sFirst (N m : Nat) (p : Option Addr) (c : Nat) (rs : List Rn) (w : World) (h : Runs w p rs) (hm : rs.length = m) (hw : nWhole N rs = true) :
    Calls Try.prog 64 #[.int .i64 N, .slice p m c] w fun e w' => ∃ (T : List Int) (g cap k : Nat), e = .returned (.tuple #[.slice (some ⟨g, 0, none⟩) k cap, .bool true]) ∧ First N rs rs.length T ∧ T.length = k ∧ w.heap.size ≤ g ∧ Own w' g 3 1 k cap T ∧ Below w.heap.size w w' := by
  have hn : nOk N rs = true := by unfold nWhole at hw; simp at hw; exact hw.1
  obtain ⟨hn2, hn6, hl12, -⟩ := nOk_true hn
  have hok : Hid (∀ r' ∈ rs, 0 ≤ r'.f ∧ r'.f < (N : Int) ∧ 0 ≤ r'.t ∧ r'.t < (N : Int)) := Lib.hid (fun r' hr' => by
    obtain ⟨i, hi⟩ := List.getElem?_of_mem hr'
    obtain ⟨a1, a2, a3, a4, -⟩ := rOk_true ((nOk_true hn).2.2.2 i r' hi)
    exact ⟨a1, a2, a3, a4⟩)
  have hm12 : m ≤ 12 := by omega
  have H := Lib.hid (And.intro h (And.intro hm hn))
  have c1 := fun w h => Lib.hid (sWhole_at (p := p) (c := c) w hm h (by omega) hw)
  have HE := Lib.hid (Own.empty w 3 1)
  clear h hm hw hn hl12
  go_enter Try.func64, Try.ntmps64
  go_wp2_with ((go_at_call 72; (with_reducible refine ((c1 _ ?_).out).mono ?_); (focus ((exact H.out.1.below (by repeat (first | assumption | exact Below.refl _ _ | (refine below_chain ?_ (by assumption) (by first | omega | (simp <;> omega) | simp)) | (refine Below.alloc ?_ (by first | omega | (simp <;> omega) | simp) _) | (apply below_drewN) | (apply below_drew) | (refine Below.setCell ?_ (by first | omega | (simp <;> omega) | simp) _)))); done)); rintro e wa ⟨rfl, hb_wa⟩; have hs_wa := hb_wa.size; (try simp at hs_wa)))
  have HO0 := Lib.hid (HE.out.below (w' := wa) (by repeat (first | assumption | exact Below.refl _ _ | (refine below_chain ?_ (by assumption) (by first | omega | (simp <;> omega) | simp)) | (refine Below.alloc ?_ (by first | omega | (simp <;> omega) | simp) _) | (apply below_drewN) | (apply below_drew) | (refine Below.setCell ?_ (by first | omega | (simp <;> omega) | simp) _))))
  have hB : Below w.heap.size w wa := (by repeat (first | assumption | exact Below.refl _ _ | (refine below_chain ?_ (by assumption) (by first | omega | (simp <;> omega) | simp)) | (refine Below.alloc ?_ (by first | omega | (simp <;> omega) | simp) _) | (apply below_drewN) | (apply below_drew) | (refine Below.setCell ?_ (by first | omega | (simp <;> omega) | simp) _)))
  clear c1 HE hb_wa
  go_loopw [6, 7] (fun v i wr => ∃ (j g cap k : Nat) (T : List Int), j ≤ m ∧ i = .int .i64 j ∧ v = .slice (some ⟨g, 0, none⟩) k cap ∧ w.heap.size ≤ g ∧ T.length = k ∧ First N rs j T ∧ Own wr g 3 1 k cap T ∧ Below w.heap.size w wr) (fun _ i _ => m - (intOf i).toNat)
  case atStart => exact ⟨0, _, _, 0, [], Nat.zero_le _, rfl, rfl, Nat.le_refl _, rfl, First.start N rs, HO0.out, hB⟩
  case round =>
    clear HO0 hB hs_wa
    obtain ⟨j, g, cap, k, T, hj, rfl, rfl, hg, hTk, hF, how, hbr⟩ := hrel
    have hbs := hbr.size
    have hlo := how.lt
    have hk6 : k ≤ 6 := by have := hF.cnt; omega
    have HO := Lib.hid (And.intro how (And.intro hF hTk))
    by_cases hlt : j < m
    · obtain ⟨r, hr⟩ : ∃ r, rs[j]? = some r := ⟨_, List.getElem?_eq_getElem (by have := H.out.2.1; omega)⟩
      obtain ⟨q0, q1, q2, q3⟩ := hok.out r (List.mem_of_getElem? hr)
      have hsub := hF.sub_ok H.out.2.2 (by have := H.out.2.1; omega)
      have hsl : (sub rs T).length = k := by rw [sub_len]; exact hTk
      have hasc : Asc rs.length T := ⟨fun z hz => by have := hF.asc.rng z hz; have := H.out.2.1; omega, hF.asc.up⟩
      have c2 := fun w h hq => Lib.hid (sSome p (some ⟨g, 0, none⟩) c cap m k rs T w h hq H.out.2.1 hTk hasc (by omega))
      have c3 := fun w p c h => Lib.hid (sLabels_at (p := p) (c := c) w hsl h hsub)
      have hll := labs_len N (sub rs T)
      have e1 := htAt_get (L := labs N (sub rs T)) q0 (by omega)
      have e2 := htAt_get (L := labs N (sub rs T)) q2 (by omega)
      obtain ⟨a, ha⟩ : ∃ a : Nat, r.f = (a : Int) := ⟨r.f.toNat, by omega⟩
      obtain ⟨b, hb⟩ : ∃ b : Nat, r.t = (b : Int) := ⟨r.t.toNat, by omega⟩
      obtain ⟨x, hx⟩ : ∃ x, htAt (labs N (sub rs T)) r.f = x := ⟨_, rfl⟩
      obtain ⟨y, hy⟩ : ∃ y, htAt (labs N (sub rs T)) r.t = y := ⟨_, rfl⟩
      have hskip : x = y → First N rs (j + 1) T := fun e => hF.skip hok.out hr (by rw [hx, hy]; exact e)
      have htake : x ≠ y → First N rs (j + 1) (T ++ [(j : Int)]) := fun e => hF.take hok.out hr (by rw [hx, hy]; exact e)
      rw [hx, ha, Int.toNat_natCast] at e1
      rw [hy, hb, Int.toNat_natCast] at e2
      have haN : a < N := by omega
      have hbN : b < N := by omega
      have HH := Lib.hid (And.intro hr (And.intro ha (And.intro hb (And.intro hskip (And.intro htake (And.intro e1 (And.intro e2 hll)))))))
      generalize labs N (sub rs T) = zs at c3 HH
      clear hr ha hb hskip htake e1 e2 hx hy hll hsub hsl hasc hF how q0 q1 q2 q3 hTk
      go_wp2_with (first | (go_at_call 87; (with_reducible refine ((c2 _ ?_ ?_).out).mono ?_); (focus (exact H.out.1.below (by repeat (first | assumption | exact Below.refl _ _ | (refine below_chain ?_ (by assumption) (by first | omega | (simp <;> omega) | simp)) | (refine Below.alloc ?_ (by first | omega | (simp <;> omega) | simp) _) | (apply below_drewN) | (apply below_drew) | (refine Below.setCell ?_ (by first | omega | (simp <;> omega) | simp) _))); done)); (focus (exact HO.out.1.ints; done)); rintro e ws ⟨gs, cs, rfl, hgs, os, hb_ws⟩; have hs_ws := hb_ws.size; have OS := Lib.hid os; clear os) | (go_at_call 86; (with_reducible refine ((c3 _ _ _ ?_).out).mono ?_); (focus (exact OS.out.runs; done)); rintro e wl ⟨u, rfl, gl, cl, rfl, hgl, ol, hb_wl⟩; have hs_wl := hb_wl.size; have OL := Lib.hid ol; have hll := ol.lt; clear ol))
      have HOl := Lib.hid (HO.out.1.below (w' := wl) (by repeat (first | assumption | exact Below.refl _ _ | (refine below_chain ?_ (by assumption) (by first | omega | (simp <;> omega) | simp)) | (refine Below.alloc ?_ (by first | omega | (simp <;> omega) | simp) _) | (apply below_drewN) | (apply below_drew) | (refine Below.setCell ?_ (by first | omega | (simp <;> omega) | simp) _))))
      obtain ⟨D, o, r', rfl, hr', hD, x0, x1, x2, x3⟩ := ((H.out.1.below hbr).below (w' := wl) (by repeat (first | assumption | exact Below.refl _ _ | (refine below_chain ?_ (by assumption) (by first | omega | (simp <;> omega) | simp)) | (refine Below.alloc ?_ (by first | omega | (simp <;> omega) | simp) _) | (apply below_drewN) | (apply below_drew) | (refine Below.setCell ?_ (by first | omega | (simp <;> omega) | simp) _)))).at (i := j) (by have := H.out.2.1; omega)
      obtain rfl : r = r' := by have := HH.out.1; rw [hr'] at this; cases this; rfl
      have hzl : zs.length = N := HH.out.2.2.2.2.2.2.2
      have d0 := OL.out.cells HH.out.2.2.2.2.2.1
      have d1 := OL.out.cells HH.out.2.2.2.2.2.2.1
      rw [HH.out.2.1] at x0
      rw [HH.out.2.2.1] at x1
      have hbl : Below w.heap.size w wl := hbr.trans ((hb_ws.mono (Nat.le_refl _)).mono hbs |>.trans (hb_wl.mono (by omega)))
      have haz : a < zs.length := by omega
      have hbz : b < zs.length := by omega
      clear hr' c2 c3 hb_ws hb_wl hzl
      by_cases hxy : x = y
      · have hxy' : (x == y) = true := by simpa using hxy
        have HX := Lib.hid (HH.out.2.2.2.1 hxy)
        clear hxy
        (refine wp_region_grows (by kernel_rfl) (by kernel_rfl) ?_; intro W_wg hWc_wg hWs_wg hWe_wg; (repeat (go_big_quiet_step (fail))); with_reducible refine wpQuiet_nil ?_; clear hWe_wg hWs_wg hWc_wg W_wg; intro wg hb_wg; obtain ⟨hc_wg, hf_wg⟩ := bcell hb_wg; (try simp only [World.size_drew, World.cell?_drew, World.frozen?_drew, World.heap_drewN, World.cell?_drewN, World.frozen?_drewN] at hc_wg hf_wg); have hs_wg := hb_wg.size; (try simp at hs_wg))
        go_wp2_with fail
        go_roundw
        case rel => exact ⟨j + 1, g, cap, k, T, by omega, by go_num, rfl, hg, HO.out.2.2, HX.out, HOl.out.below hb_wg, hbl.trans (hb_wg.mono (by have := hbl.size; omega))⟩
        case measure => simp [intOf]; omega
      · have hxy' : (x == y) = false := by simpa using hxy
        have HX := Lib.hid (HH.out.2.2.2.2.1 hxy)
        clear hxy
        (refine wp_region_grows (by kernel_rfl) (by kernel_rfl) ?_; intro W_wg hWc_wg hWs_wg hWe_wg; (repeat (go_big_quiet_step (fail))); with_reducible refine wpQuiet_nil ?_; clear hWe_wg hWs_wg hWc_wg W_wg; intro wg hb_wg; obtain ⟨hc_wg, hf_wg⟩ := bcell hb_wg; (try simp only [World.size_drew, World.cell?_drew, World.frozen?_drew, World.heap_drewN, World.cell?_drewN, World.frozen?_drewN] at hc_wg hf_wg); have hs_wg := hb_wg.size; (try simp at hs_wg))
        go_wp2_with (at_builtin; refine wp_append _ rfl _ _ 24 rfl 3 _ 1 8 Try.underlying24 info_int rfl (by decide) (by decide) _ k cap T rfl ((HOl.out.below hb_wg).alloc _) _ _ _ [(j : Int)] rfl rfl (one_cell _ _ _) (by omega) ?_; intro g' cap' w' hown hgr hloc hsz; have HN := Lib.hid (And.intro hown (And.intro hgr hloc)); clear hown hgr hloc)
        go_roundw
        case rel =>
          obtain ⟨hown, hgr, hloc⟩ := HN.out
          have hwg : w.heap.size ≤ wg.heap.size := by have := hbl.size; have := hb_wg.size; omega
          have hg' : w.heap.size ≤ g' := by
            rcases hloc with rfl | rfl
            · exact hg
            · simp; omega
          exact ⟨j + 1, g', cap', k + 1, T ++ [(j : Int)], by omega, by go_num, rfl, hg', by simp [HO.out.2.2], HX.out, hown, below_gr ((hbl.trans (hb_wg.mono (by have := hbl.size; omega))).alloc hwg _) hgr hg (by simp; omega)⟩
        case measure => simp [intOf]; omega
    · have e : j = m := by omega
      subst e
      clear how hF
      go_wp2_with fail
      exact bodyPost_ret (v := .tuple #[.slice (some ⟨g, 0, none⟩) k cap, .bool true]) (by simp [results, Try.results64, go_sem]) rfl ⟨T, g, cap, k, rfl, by rw [H.out.2.1]; exact HO.out.2.1, HO.out.2.2, hg, HO.out.1, hbr⟩
end Go.Proofs.Ytimghdffmdcheaa
namespace Go.Proofs.Ytimghdffmdcheaa
open Go.RowKit
set_option linter.unusedVariables false

/-- the block g is a row of n bools -/
def Flags (w : World) (g n : Nat) : Prop := ∃ cur : Array Value, w.heap[g]? = some (.cells cur 4 (0, 0)) ∧ cur.size = n ∧ ∀ i, i < n → ∃ b, cur[i]? = some (.bool b)
section
variable {w w' : World} {g n : Nat}
theorem Flags.lt (h : Flags w g n) : g < w.heap.size := by obtain ⟨_, hg, _⟩ := h; exact (Array.getElem?_eq_some_iff.1 hg).1
theorem Flags.cell (h : Flags w g n) {i : Nat} (hi : i < n) : ∃ b, w.cell? ⟨g, i, none⟩ = some (.bool b) := by
  obtain ⟨cur, hg, hs, hc⟩ := h
  obtain ⟨b, hb⟩ := hc i hi
  exact ⟨b, by rw [Joins.cell_of_block hg]; exact hb⟩
theorem Flags.frozen (h : Flags w g n) (i : Nat) : w.frozen? ⟨g, i, none⟩ = false := by obtain ⟨_, hg, _⟩ := h; exact Joins.unfrozen_of_block hg i
theorem Flags.block (h : Flags w g n) (e : w'.heap[g]? = w.heap[g]?) : Flags w' g n := by obtain ⟨cur, hg, hs, hc⟩ := h; exact ⟨cur, e.trans hg, hs, hc⟩
theorem Flags.below (h : Flags w g n) (hb : Below w.heap.size w w') : Flags w' g n := h.block (hb.block _ h.lt)
theorem Flags.alloc (h : Flags w g n) (o : Obj) : Flags (w.alloc o) g n := h.block (Deep.blk_alloc_lt _ _ _ h.lt)
theorem Flags.setOther (h : Flags w g n) {a : Addr} (ha : g ≠ a.block) (v : Value) : Flags (w.setCell a v) g n := h.block (Deep.blk_setCell_other _ _ _ _ ha)
theorem Flags.set (h : Flags w g n) (i : Nat) (b : Bool) : Flags (w.setCell ⟨g, i, none⟩ (.bool b)) g n := by
  obtain ⟨cur, hg, hs, hc⟩ := h
  refine ⟨_, Joins.block_setCell hg _, by simpa using hs, fun j hj => ?_⟩
  rw [Array.getElem?_setIfInBounds]
  split
  · split
    · exact ⟨b, rfl⟩
    · rename_i e hn; subst e; omega
  · exact hc j hj
theorem Flags.made (w : World) (n : Nat) : Flags (w.alloc (.cells (madeCells #[.bool false] n) 4)) w.heap.size n :=
  ⟨_, Deep.blk_alloc_new _ _, size_madeCells _ _, fun i hi => ⟨false, by simp [madeCells, hi, Nat.mod_one]⟩⟩
end
theorem info_bool : (Try.prog.info? 4).map (fun i => (i.zero, i.size, i.bytes)) = some (some (.bool false), 1, 1) := by kernel_rfl
theorem made_bools (w : World) (n : Nat) (hn : n ≤ 1048576) : (Instr.makeSlice 76 (.int .i64 (n : Int)) (.int .i64 (n : Int))).run Try.prog w = .ok (.slice (some ⟨w.heap.size, 0, none⟩) n n) (w.alloc (.cells (madeCells #[.bool false] n) 4)) := by
  obtain ⟨i, hi, hzz⟩ := Option.map_eq_some_iff.1 info_bool
  simp only [Prod.mk.injEq] at hzz
  obtain ⟨hz, hs, hb⟩ := hzz
  have := run_make (P := Try.prog) w 76 4 i _ Try.underlying76 hi hz .i64 .i64 n n (by omega) (Int.le_refl _) (by rw [hb]; omega) (by omega)
  simp only [Int.toNat_natCast, hs, Nat.mul_one] at this
  exact this

end Go.Proofs.Ytimghdffmdcheaa
namespace Go.Proofs.Ytimghdffmdcheaa
open Go.RowKit
set_option linter.unusedVariables false

theorem sValid_n {n : Int} {p : Option Addr} {c m : Nat} {rs : List Rn} {b : Bool} (w : World) (hm : rs.length = m) (h : Runs w p rs) (hl : m ≤ 4000000000000000000) (hb : nOk n rs = b) :
    Calls Try.prog 53 #[.int .i64 n, .slice p m c] w fun e w' => e = .returned (.bool b) ∧ Below w.heap.size w w' := by
  subst hm; exact sValid n p c rs b w h hl hb
theorem sWhole_n {n : Int} {p : Option Addr} {c m : Nat} {rs : List Rn} {b : Bool} (w : World) (hm : rs.length = m) (h : Runs w p rs) (hl : m ≤ 4000000000000000000) (hb : nWhole n rs = b) :
    Calls Try.prog 72 #[.int .i64 n, .slice p m c] w fun e w' => e = .returned (.bool b) ∧ Below w.heap.size w w' := by
  subst hm; exact sWhole n p c rs b w h hl hb

/-- the first j indexes ascend in range, and t is the last of them (-1: there is none) -/
structure UpTo (m : Nat) (T : List Int) (j : Nat) (t : Int) : Prop where
  asc : Asc m (T.take j)
  last : (j = 0 ∧ t = -1) ∨ ∃ i, i + 1 = j ∧ T[i]? = some t
theorem UpTo.start (m : Nat) (T : List Int) : UpTo m T 0 (-1) := ⟨⟨fun z hz => by simp at hz, by simp⟩, .inl ⟨rfl, rfl⟩⟩
theorem UpTo.low {m : Nat} {T : List Int} {j : Nat} {t : Int} (h : UpTo m T j t) : -1 ≤ t ∧ t ≤ m := by
  rcases h.last with ⟨-, rfl⟩ | ⟨i, hi, ht⟩
  · omega
  · have := h.asc.rng t (List.mem_of_getElem? (i := i) (by rw [List.getElem?_take, if_pos (by omega)]; exact ht)); omega
theorem UpTo.step {m : Nat} {T : List Int} {j : Nat} {t z : Int} (h : UpTo m T j t) (hz : T[j]? = some z) (h0 : t + 1 ≤ z) (h1 : z ≤ (m : Int) - 1) : UpTo m T (j + 1) z := by
  have hlow := h.low
  refine ⟨?_, .inr ⟨j, rfl, hz⟩⟩
  rw [take_succ_of hz]
  have hle : ∀ y ∈ T.take j, y ≤ t := fun y hy => by
    obtain ⟨i, hi⟩ := List.getElem?_of_mem hy
    rcases h.last with ⟨rfl, -⟩ | ⟨q, hq, ht⟩
    · simp at hy
    · have hil := (List.getElem?_eq_some_iff.1 hi).1
      simp at hil
      have ht' : (T.take j)[q]? = some t := by rw [List.getElem?_take, if_pos (by omega)]; exact ht
      by_cases e : i = q
      · subst e; rw [hi] at ht'; cases ht'; omega
      · have := h.asc.get hi ht' (by omega); omega
  refine ⟨fun y hy => ?_, List.pairwise_append.2 ⟨h.asc.up, by simp, fun a ha b hb => ?_⟩⟩
  · rcases List.mem_append.1 hy with h' | h'
    · exact h.asc.rng y h'
    · simp at h'; subst h'; omega
  · simp at hb; subst hb
    have := hle a ha; omega
theorem UpTo.no {m : Nat} {T : List Int} {j : Nat} {t z : Int} (h : UpTo m T j t) (hz : T[j]? = some z) (hno : ¬ (t + 1 ≤ z ∧ z ≤ (m : Int) - 1)) : ¬ Asc m T := fun ha => by
  obtain ⟨z0, z1⟩ := ha.rng z (List.mem_of_getElem? hz)
  rcases h.last with ⟨rfl, rfl⟩ | ⟨i, hi, ht⟩
  · omega
  · have := ha.get ht hz (by omega); omega

set_option maxHeartbeats 4000000 in
theorem sFirst_yes (N m : Nat) (p : Option Addr) (c : Nat) (rs : List Rn) (w : World) (h : Runs w p rs) (hm : rs.length = m) (hw : nWhole N rs = true) :
    Calls Try.prog 64 #[.int .i64 N, .slice p m c] w fun e w' => ∃ (g cap k : Nat), e = .returned (.tuple #[.slice (some ⟨g, 0, none⟩) k cap, .bool true]) ∧ (firstT N rs rs.length).length = k ∧ w.heap.size ≤ g ∧ Own w' g 3 1 k cap (firstT N rs rs.length) ∧ Below w.heap.size w w' := by
  have hn : nOk N rs = true := by unfold nWhole at hw; simp at hw; exact hw.1
  obtain ⟨hn2, hn6, hl12, -⟩ := nOk_true hn
  have hok : Hid (∀ r' ∈ rs, 0 ≤ r'.f ∧ r'.f < (N : Int) ∧ 0 ≤ r'.t ∧ r'.t < (N : Int)) := Lib.hid (fun r' hr' => by
    obtain ⟨i, hi⟩ := List.getElem?_of_mem hr'
    obtain ⟨a1, a2, a3, a4, -⟩ := rOk_true ((nOk_true hn).2.2.2 i r' hi)
    exact ⟨a1, a2, a3, a4⟩)
  have hm12 : m ≤ 12 := by omega
  have H := Lib.hid (And.intro h (And.intro hm hn))
  have c1 := fun w h => Lib.hid (sWhole_at (p := p) (c := c) w hm h (by omega) hw)
  have HE := Lib.hid (Own.empty w 3 1)
  clear h hm hw hn hl12
  go_enter Try.func64, Try.ntmps64
  go_wp2_with ((go_at_call 72; (with_reducible refine ((c1 _ ?_).out).mono ?_); (focus ((exact H.out.1.below (by repeat (first | assumption | exact Below.refl _ _ | (refine below_chain ?_ (by assumption) (by first | omega | (simp <;> omega) | simp)) | (refine Below.alloc ?_ (by first | omega | (simp <;> omega) | simp) _) | (apply below_drewN) | (apply below_drew) | (refine Below.setCell ?_ (by first | omega | (simp <;> omega) | simp) _)))); done)); rintro e wa ⟨rfl, hb_wa⟩; have hs_wa := hb_wa.size; (try simp at hs_wa)))
  have HO0 := Lib.hid (HE.out.below (w' := wa) (by repeat (first | assumption | exact Below.refl _ _ | (refine below_chain ?_ (by assumption) (by first | omega | (simp <;> omega) | simp)) | (refine Below.alloc ?_ (by first | omega | (simp <;> omega) | simp) _) | (apply below_drewN) | (apply below_drew) | (refine Below.setCell ?_ (by first | omega | (simp <;> omega) | simp) _))))
  have hB : Below w.heap.size w wa := (by repeat (first | assumption | exact Below.refl _ _ | (refine below_chain ?_ (by assumption) (by first | omega | (simp <;> omega) | simp)) | (refine Below.alloc ?_ (by first | omega | (simp <;> omega) | simp) _) | (apply below_drewN) | (apply below_drew) | (refine Below.setCell ?_ (by first | omega | (simp <;> omega) | simp) _)))
  clear c1 HE hb_wa
  go_loopw [6, 7] (fun v i wr => ∃ (j g cap k : Nat) (T : List Int), j ≤ m ∧ i = .int .i64 j ∧ v = .slice (some ⟨g, 0, none⟩) k cap ∧ w.heap.size ≤ g ∧ T.length = k ∧ firstT N rs j = T ∧ Own wr g 3 1 k cap T ∧ Below w.heap.size w wr) (fun _ i _ => m - (intOf i).toNat)
  case atStart => exact ⟨0, _, _, 0, [], Nat.zero_le _, rfl, rfl, Nat.le_refl _, rfl, rfl, HO0.out, hB⟩
  case round =>
    clear HO0 hB hs_wa
    obtain ⟨j, g, cap, k, T, hj, rfl, rfl, hg, hTk, hTf, how, hbr⟩ := hrel
    have hF : First N rs j T := by rw [← hTf]; exact firstT_is hok.out j (by have := H.out.2.1; omega)
    have hbs := hbr.size
    have hlo := how.lt
    have hk6 : k ≤ 6 := by have := hF.cnt; omega
    have HO := Lib.hid (And.intro how (And.intro hTf hTk))
    by_cases hlt : j < m
    · obtain ⟨r, hr⟩ : ∃ r, rs[j]? = some r := ⟨_, List.getElem?_eq_getElem (by have := H.out.2.1; omega)⟩
      obtain ⟨q0, q1, q2, q3⟩ := hok.out r (List.mem_of_getElem? hr)
      have hsub := hF.sub_ok H.out.2.2 (by have := H.out.2.1; omega)
      have hsl : (sub rs T).length = k := by rw [sub_len]; exact hTk
      have hasc : Asc rs.length T := ⟨fun z hz => by have := hF.asc.rng z hz; have := H.out.2.1; omega, hF.asc.up⟩
      have c2 := fun w h hq => Lib.hid (sSome p (some ⟨g, 0, none⟩) c cap m k rs T w h hq H.out.2.1 hTk hasc (by omega))
      have c3 := fun w p c h => Lib.hid (sLabels_at (p := p) (c := c) w hsl h hsub)
      have hll := labs_len N (sub rs T)
      have e1 := htAt_get (L := labs N (sub rs T)) q0 (by omega)
      have e2 := htAt_get (L := labs N (sub rs T)) q2 (by omega)
      obtain ⟨a, ha⟩ : ∃ a : Nat, r.f = (a : Int) := ⟨r.f.toNat, by omega⟩
      obtain ⟨b, hb⟩ : ∃ b : Nat, r.t = (b : Int) := ⟨r.t.toNat, by omega⟩
      obtain ⟨x, hx⟩ : ∃ x, htAt (labs N (sub rs T)) r.f = x := ⟨_, rfl⟩
      obtain ⟨y, hy⟩ : ∃ y, htAt (labs N (sub rs T)) r.t = y := ⟨_, rfl⟩
      have hskip : x = y → firstT N rs (j + 1) = T := fun e => by rw [← hTf]; exact firstT_skip hr (by rw [hTf]; unfold lab; rw [hx, hy]; exact e)
      have htake : x ≠ y → firstT N rs (j + 1) = T ++ [(j : Int)] := fun e => by rw [firstT_take hr (by rw [hTf]; unfold lab; rw [hx, hy]; exact e), hTf]
      rw [hx, ha, Int.toNat_natCast] at e1
      rw [hy, hb, Int.toNat_natCast] at e2
      have haN : a < N := by omega
      have hbN : b < N := by omega
      have HH := Lib.hid (And.intro hr (And.intro ha (And.intro hb (And.intro hskip (And.intro htake (And.intro e1 (And.intro e2 hll)))))))
      generalize labs N (sub rs T) = zs at c3 HH
      clear hr ha hb hskip htake e1 e2 hx hy hll hsub hsl hasc hF hTf how q0 q1 q2 q3 hTk
      go_wp2_with (first | (go_at_call 87; (with_reducible refine ((c2 _ ?_ ?_).out).mono ?_); (focus (exact H.out.1.below (by repeat (first | assumption | exact Below.refl _ _ | (refine below_chain ?_ (by assumption) (by first | omega | (simp <;> omega) | simp)) | (refine Below.alloc ?_ (by first | omega | (simp <;> omega) | simp) _) | (apply below_drewN) | (apply below_drew) | (refine Below.setCell ?_ (by first | omega | (simp <;> omega) | simp) _))); done)); (focus (exact HO.out.1.ints; done)); rintro e ws ⟨gs, cs, rfl, hgs, os, hb_ws⟩; have hs_ws := hb_ws.size; have OS := Lib.hid os; clear os) | (go_at_call 86; (with_reducible refine ((c3 _ _ _ ?_).out).mono ?_); (focus (exact OS.out.runs; done)); rintro e wl ⟨u, rfl, gl, cl, rfl, hgl, ol, hb_wl⟩; have hs_wl := hb_wl.size; have OL := Lib.hid ol; have hll := ol.lt; clear ol))
      have HOl := Lib.hid (HO.out.1.below (w' := wl) (by repeat (first | assumption | exact Below.refl _ _ | (refine below_chain ?_ (by assumption) (by first | omega | (simp <;> omega) | simp)) | (refine Below.alloc ?_ (by first | omega | (simp <;> omega) | simp) _) | (apply below_drewN) | (apply below_drew) | (refine Below.setCell ?_ (by first | omega | (simp <;> omega) | simp) _))))
      obtain ⟨D, o, r', rfl, hr', hD, x0, x1, x2, x3⟩ := ((H.out.1.below hbr).below (w' := wl) (by repeat (first | assumption | exact Below.refl _ _ | (refine below_chain ?_ (by assumption) (by first | omega | (simp <;> omega) | simp)) | (refine Below.alloc ?_ (by first | omega | (simp <;> omega) | simp) _) | (apply below_drewN) | (apply below_drew) | (refine Below.setCell ?_ (by first | omega | (simp <;> omega) | simp) _)))).at (i := j) (by have := H.out.2.1; omega)
      obtain rfl : r = r' := by have := HH.out.1; rw [hr'] at this; cases this; rfl
      have hzl : zs.length = N := HH.out.2.2.2.2.2.2.2
      have d0 := OL.out.cells HH.out.2.2.2.2.2.1
      have d1 := OL.out.cells HH.out.2.2.2.2.2.2.1
      rw [HH.out.2.1] at x0
      rw [HH.out.2.2.1] at x1
      have hbl : Below w.heap.size w wl := hbr.trans ((hb_ws.mono (Nat.le_refl _)).mono hbs |>.trans (hb_wl.mono (by omega)))
      have haz : a < zs.length := by omega
      have hbz : b < zs.length := by omega
      clear hr' c2 c3 hb_ws hb_wl hzl
      by_cases hxy : x = y
      · have hxy' : (x == y) = true := by simpa using hxy
        have HX := Lib.hid (HH.out.2.2.2.1 hxy)
        clear hxy
        (refine wp_region_grows (by kernel_rfl) (by kernel_rfl) ?_; intro W_wg hWc_wg hWs_wg hWe_wg; (repeat (go_big_quiet_step (fail))); with_reducible refine wpQuiet_nil ?_; clear hWe_wg hWs_wg hWc_wg W_wg; intro wg hb_wg; obtain ⟨hc_wg, hf_wg⟩ := bcell hb_wg; (try simp only [World.size_drew, World.cell?_drew, World.frozen?_drew, World.heap_drewN, World.cell?_drewN, World.frozen?_drewN] at hc_wg hf_wg); have hs_wg := hb_wg.size; (try simp at hs_wg))
        go_wp2_with fail
        go_roundw
        case rel => exact ⟨j + 1, g, cap, k, T, by omega, by go_num, rfl, hg, HO.out.2.2, HX.out, HOl.out.below hb_wg, hbl.trans (hb_wg.mono (by have := hbl.size; omega))⟩
        case measure => simp [intOf]; omega
      · have hxy' : (x == y) = false := by simpa using hxy
        have HX := Lib.hid (HH.out.2.2.2.2.1 hxy)
        clear hxy
        (refine wp_region_grows (by kernel_rfl) (by kernel_rfl) ?_; intro W_wg hWc_wg hWs_wg hWe_wg; (repeat (go_big_quiet_step (fail))); with_reducible refine wpQuiet_nil ?_; clear hWe_wg hWs_wg hWc_wg W_wg; intro wg hb_wg; obtain ⟨hc_wg, hf_wg⟩ := bcell hb_wg; (try simp only [World.size_drew, World.cell?_drew, World.frozen?_drew, World.heap_drewN, World.cell?_drewN, World.frozen?_drewN] at hc_wg hf_wg); have hs_wg := hb_wg.size; (try simp at hs_wg))
        go_wp2_with (at_builtin; refine wp_append _ rfl _ _ 24 rfl 3 _ 1 8 Try.underlying24 info_int rfl (by decide) (by decide) _ k cap T rfl ((HOl.out.below hb_wg).alloc _) _ _ _ [(j : Int)] rfl rfl (one_cell _ _ _) (by omega) ?_; intro g' cap' w' hown hgr hloc hsz; have HN := Lib.hid (And.intro hown (And.intro hgr hloc)); clear hown hgr hloc)
        go_roundw
        case rel =>
          obtain ⟨hown, hgr, hloc⟩ := HN.out
          have hwg : w.heap.size ≤ wg.heap.size := by have := hbl.size; have := hb_wg.size; omega
          have hg' : w.heap.size ≤ g' := by
            rcases hloc with rfl | rfl
            · exact hg
            · simp; omega
          exact ⟨j + 1, g', cap', k + 1, T ++ [(j : Int)], by omega, by go_num, rfl, hg', by simp [HO.out.2.2], HX.out, hown, below_gr ((hbl.trans (hb_wg.mono (by have := hbl.size; omega))).alloc hwg _) hgr hg (by simp; omega)⟩
        case measure => simp [intOf]; omega
    · have e : j = m := by omega
      subst e
      clear how hF hTf
      go_wp2_with fail
      exact bodyPost_ret (v := .tuple #[.slice (some ⟨g, 0, none⟩) k cap, .bool true]) (by simp [results, Try.results64, go_sem]) rfl ⟨g, cap, k, rfl, by rw [H.out.2.1, HO.out.2.1]; exact HO.out.2.2, hg, by rw [H.out.2.1, HO.out.2.1]; exact HO.out.1, hbr⟩
set_option maxHeartbeats 1000000 in
theorem sFirst_no (n : Int) (m : Nat) (p : Option Addr) (c : Nat) (rs : List Rn) (w : World) (h : Runs w p rs) (hm : rs.length = m) (hl : m ≤ 4000000000000000000) (hw : nWhole n rs = false) :
    Calls Try.prog 64 #[.int .i64 n, .slice p m c] w fun e w' => (∃ g, e = .returned (.tuple #[.slice (some ⟨g, 0, none⟩) 0 0, .bool false])) ∧ Below w.heap.size w w' := by
  have H := Lib.hid h
  have c1 := fun w h => Lib.hid (sWhole_n (p := p) (c := c) w hm h hl hw)
  clear h hw
  go_enter Try.func64, Try.ntmps64
  go_wp2_with ((go_at_call 72; (with_reducible refine ((c1 _ ?_).out).mono ?_); (focus ((exact H.out.below (by repeat (first | assumption | exact Below.refl _ _ | (refine below_chain ?_ (by assumption) (by first | omega | (simp <;> omega) | simp)) | (refine Below.alloc ?_ (by first | omega | (simp <;> omega) | simp) _) | (apply below_drewN) | (apply below_drew) | (refine Below.setCell ?_ (by first | omega | (simp <;> omega) | simp) _)))); done)); rintro e wa ⟨rfl, hb_wa⟩; have hs_wa := hb_wa.size; (try simp at hs_wa)))
  exact bodyPost_ret (v := .tuple #[.slice (some ⟨w.heap.size, 0, none⟩) 0 0, .bool false]) (by simp [results, Try.results64, go_sem]) rfl ⟨⟨_, rfl⟩, (by repeat (first | assumption | exact Below.refl _ _ | (refine below_chain ?_ (by assumption) (by first | omega | (simp <;> omega) | simp)) | (refine Below.alloc ?_ (by first | omega | (simp <;> omega) | simp) _) | (apply below_drewN) | (apply below_drew) | (refine Below.setCell ?_ (by first | omega | (simp <;> omega) | simp) _)))⟩
end Go.Proofs.Ytimghdffmdcheaa
namespace Go.Proofs.Ytimghdffmdcheaa
open Go.RowKit
set_option linter.unusedVariables false

/-- the block g is a row of these bools -/
def Bools (w : World) (g : Nat) (ks : List Bool) : Prop := ∃ cur : Array Value, w.heap[g]? = some (.cells cur 4 (0, 0)) ∧ cur.toList = ks.map .bool
section
variable {w w' : World} {g : Nat} {ks : List Bool}
theorem Bools.lt (h : Bools w g ks) : g < w.heap.size := by obtain ⟨_, hg, _⟩ := h; exact (Array.getElem?_eq_some_iff.1 hg).1
theorem Bools.cell (h : Bools w g ks) {i : Nat} {b : Bool} (hi : ks[i]? = some b) : w.cell? ⟨g, i, none⟩ = some (.bool b) := by
  obtain ⟨cur, hg, hc⟩ := h
  rw [Joins.cell_of_block hg]
  have : cur.toList[i]? = some (.bool b) := by rw [hc, List.getElem?_map, hi]; rfl
  simpa using this
theorem Bools.frozen (h : Bools w g ks) (i : Nat) : w.frozen? ⟨g, i, none⟩ = false := by obtain ⟨_, hg, _⟩ := h; exact Joins.unfrozen_of_block hg i
theorem Bools.block (h : Bools w g ks) (e : w'.heap[g]? = w.heap[g]?) : Bools w' g ks := by obtain ⟨cur, hg, hc⟩ := h; exact ⟨cur, e.trans hg, hc⟩
theorem Bools.below (h : Bools w g ks) (hb : Below w.heap.size w w') : Bools w' g ks := h.block (hb.block _ h.lt)
theorem Bools.alloc (h : Bools w g ks) (o : Obj) : Bools (w.alloc o) g ks := h.block (Deep.blk_alloc_lt _ _ _ h.lt)
theorem Bools.setOther (h : Bools w g ks) {a : Addr} (ha : g ≠ a.block) (v : Value) : Bools (w.setCell a v) g ks := h.block (Deep.blk_setCell_other _ _ _ _ ha)
theorem Bools.set (h : Bools w g ks) (i : Nat) (b : Bool) : Bools (w.setCell ⟨g, i, none⟩ (.bool b)) g (ks.set i b) := by
  obtain ⟨cur, hg, hc⟩ := h
  exact ⟨_, Joins.block_setCell hg _, by simp [hc, List.map_set]⟩
theorem Bools.made (w : World) (n : Nat) : Bools (w.alloc (.cells (madeCells #[.bool false] n) 4)) w.heap.size (List.replicate n false) :=
  ⟨_, Deep.blk_alloc_new _ _, by
    apply List.ext_getElem?
    intro i
    by_cases hi : i < n
    · simp [madeCells, hi, Nat.mod_one, List.getElem?_replicate]
    · have : (madeCells #[Value.bool false] n).toList.length = n := by rw [Array.length_toList]; exact size_madeCells _ _
      rw [List.getElem?_eq_none (by omega), List.getElem?_eq_none (by simp; omega)]⟩
end

end Go.Proofs.Ytimghdffmdcheaa
