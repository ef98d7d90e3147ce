/-
  The reference model's trees: the runs that a list of indexes names, and the first tree.
-/
import Derived.Test.YtimghdffmdcheaaNTree
import Derived.Test.YtimghdffmdcheaaNg
import Derived.Test.YtimghdffmdcheaaDNa
namespace Go.Proofs.Ytimghdffmdcheaa
open Go.RowKit
set_option linter.unusedVariables false

set_option maxHeartbeats 2000000 in
theorem sSome (p q : Option Addr) (c d m k : Nat) (rs : List Rn) (T : List Int) (w : World) (h : Runs w p rs) (hq : Ints w q T) (hm : rs.length = m) (hk : T.length = k) (ha : Asc rs.length T) (hl : k ≤ 100) :
    Calls Try.prog 87 #[.slice p m c, .slice q k d] w fun e w' => ∃ g cap, e = .returned (.slice (some ⟨g, 0, none⟩) k cap) ∧ w.heap.size ≤ g ∧ Own w' g 42 4 k cap (flat (sub rs T)) ∧ Below w.heap.size w w' := by
  have H := Lib.hid (And.intro h (And.intro hq (And.intro hm (And.intro hk ha))))
  have HE := Lib.hid (Own.empty w 42 4)
  clear h hq hm hk ha
  go_enter Try.func87, Try.ntmps87
  go_wp2_with fail
  go_loopw [5, 6] (fun v i wr => ∃ (j g cap : Nat), j ≤ k ∧ i = .int .i64 j ∧ v = .slice (some ⟨g, 0, none⟩) j cap ∧ w.heap.size ≤ g ∧ Own wr g 42 4 j cap (flat (sub rs (T.take j))) ∧ Below w.heap.size w wr) (fun _ i _ => k - (intOf i).toNat)
  case atStart => exact ⟨0, _, _, Nat.zero_le _, rfl, rfl, Nat.le_refl _, HE.out, (by repeat (first | assumption | exact Below.refl _ _ | (refine below_chain ?_ (by assumption) (by first | omega | (simp <;> omega) | simp)) | (refine Below.alloc ?_ (by first | omega | (simp <;> omega) | simp) _) | (apply below_drewN) | (apply below_drew) | (refine Below.setCell ?_ (by first | omega | (simp <;> omega) | simp) _)))⟩
  case round =>
    clear HE
    obtain ⟨j, g, cap, hj, rfl, rfl, hg, how, hbr⟩ := hrel
    have hbs := hbr.size
    have hlo := how.lt
    have HO := Lib.hid how
    clear how
    by_cases hlt : j < k
    · obtain ⟨B, o, z, rfl, hz, hB, e0⟩ := (H.out.2.1.below hbr).at (i := j) (by have := H.out.2.2.2.1; omega)
      obtain ⟨z0, z1⟩ := H.out.2.2.2.2.rng z (List.mem_of_getElem? hz)
      obtain ⟨a, rfl⟩ : ∃ a : Nat, z = (a : Int) := ⟨z.toNat, by omega⟩
      have ham : a < m := by have := H.out.2.2.1; omega
      have ham' : (a : Int) < (m : Int) := by omega
      obtain ⟨D, o', r, rfl, hr, hD, x0, x1, x2, x3⟩ := (H.out.1.below hbr).at (i := a) (by omega)
      have HZ := Lib.hid (And.intro hz hr)
      clear hz hr z0 z1
      go_wp2_with (at_builtin; refine wp_append _ rfl _ _ 23 rfl 42 _ 4 32 Try.underlying23 info_run rfl (by decide) (by decide) _ j cap _ rfl (HO.out.alloc _) _ _ _ _ rfl rfl (four_cells _ _ _ _ _ _) (by omega) ?_; intro g' cap' w' hown hgr hloc hsz; have HN := Lib.hid (And.intro hown (And.intro hgr hloc)); clear hown hgr hloc)
      go_roundw
      case rel =>
        obtain ⟨hown, hgr, hloc⟩ := HN.out
        obtain ⟨hz, hr⟩ := HZ.out
        have hg' : w.heap.size ≤ g' := by
          rcases hloc with rfl | rfl
          · exact hg
          · simp; omega
        have e : sub rs (T.take (j + 1)) = sub rs (T.take j) ++ [r] := by
          rw [List.take_add_one, hz]
          exact sub_snoc rs _ a hr
        exact ⟨j + 1, g', cap', by omega, by go_num, rfl, hg', by rw [e, flat_append]; simpa [flat] using hown, below_gr (hbr.alloc hbs _) hgr hg (by simp; omega)⟩
      case measure => simp [intOf]; omega
    · have e : j = k := by omega
      subst e
      go_wp2_with fail
      go_ret
      exact ⟨g, cap, rfl, hg, by have := HO.out; rwa [List.take_of_length_le (by have := H.out.2.2.2.1; omega)] at this, hbr⟩

theorem sLabels_at {N : Nat} {p : Option Addr} {c m : Nat} {rs : List Rn} (w : World) (hm : rs.length = m) (h : Runs w p rs) (hn : nOk N rs = true) :
    Calls Try.prog 86 #[.int .i64 N, .slice p m c] w fun e w' => ∃ v, e = .returned v ∧ NewInts w (labs N rs) v w' := by
  subst hm; exact sLabels N p c rs w h hn
theorem sWhole_at {N : Nat} {p : Option Addr} {c m : Nat} {rs : List Rn} {b : Bool} (w : World) (hm : rs.length = m) (h : Runs w p rs) (hl : m ≤ 100) (hb : nWhole N rs = b) :
    Calls Try.prog 72 #[.int .i64 N, .slice p m c] w fun e w' => e = .returned (.bool b) ∧ Below w.heap.size w w' := by
  subst hm; exact sWhole N p c rs b w h (by omega) hb
theorem sValid_at {N : Nat} {p : Option Addr} {c m : Nat} {rs : List Rn} {b : Bool} (w : World) (hm : rs.length = m) (h : Runs w p rs) (hl : m ≤ 100) (hb : nOk N rs = b) :
    Calls Try.prog 53 #[.int .i64 N, .slice p m c] w fun e w' => e = .returned (.bool b) ∧ Below w.heap.size w w' := by
  subst hm; exact sValid N p c rs b w h (by omega) hb

set_option maxHeartbeats 4000000 in
theorem sFirst (N m : Nat) (p : Option Addr) (c : Nat) (rs : List Rn) (w : World) (h : Runs w p rs) (hm : rs.length = m) (hw : nWhole N rs = true) :
    Calls Try.prog 64 #[.int .i64 N, .slice p m c] w fun e w' => ∃ (T : List Int) (g cap k : Nat), e = .returned (.tuple #[.slice (some ⟨g, 0, none⟩) k cap, .bool true]) ∧ First N rs rs.length T ∧ T.length = k ∧ w.heap.size ≤ g ∧ Own w' g 3 1 k cap T ∧ Below w.heap.size w w' := by
  have hn : nOk N rs = true := by unfold nWhole at hw; simp at hw; exact hw.1
  obtain ⟨hn2, hn6, hl12, -⟩ := nOk_true hn
  have hok : Hid (∀ r' ∈ rs, 0 ≤ r'.f ∧ r'.f < (N : Int) ∧ 0 ≤ r'.t ∧ r'.t < (N : Int)) := Lib.hid (fun r' hr' => by
    obtain ⟨i, hi⟩ := List.getElem?_of_mem hr'
    obtain ⟨a1, a2, a3, a4, -⟩ := rOk_true ((nOk_true hn).2.2.2 i r' hi)
    exact ⟨a1, a2, a3, a4⟩)
  have hm12 : m ≤ 12 := by omega
  have H := Lib.hid (And.intro h (And.intro hm hn))
  have c1 := fun w h => Lib.hid (sWhole_at (p := p) (c := c) w hm h (by omega) hw)
  have HE := Lib.hid (Own.empty w 3 1)
  clear h hm hw hn hl12
  go_enter Try.func64, Try.ntmps64
  go_wp2_with ((go_at_call 72; (with_reducible refine ((c1 _ ?_).out).mono ?_); (focus ((exact H.out.1.below (by repeat (first | assumption | exact Below.refl _ _ | (refine below_chain ?_ (by assumption) (by first | omega | (simp <;> omega) | simp)) | (refine Below.alloc ?_ (by first | omega | (simp <;> omega) | simp) _) | (apply below_drewN) | (apply below_drew) | (refine Below.setCell ?_ (by first | omega | (simp <;> omega) | simp) _)))); done)); rintro e wa ⟨rfl, hb_wa⟩; have hs_wa := hb_wa.size; (try simp at hs_wa)))
  have HO0 := Lib.hid (HE.out.below (w' := wa) (by repeat (first | assumption | exact Below.refl _ _ | (refine below_chain ?_ (by assumption) (by first | omega | (simp <;> omega) | simp)) | (refine Below.alloc ?_ (by first | omega | (simp <;> omega) | simp) _) | (apply below_drewN) | (apply below_drew) | (refine Below.setCell ?_ (by first | omega | (simp <;> omega) | simp) _))))
  have hB : Below w.heap.size w wa := (by repeat (first | assumption | exact Below.refl _ _ | (refine below_chain ?_ (by assumption) (by first | omega | (simp <;> omega) | simp)) | (refine Below.alloc ?_ (by first | omega | (simp <;> omega) | simp) _) | (apply below_drewN) | (apply below_drew) | (refine Below.setCell ?_ (by first | omega | (simp <;> omega) | simp) _)))
  clear c1 HE hb_wa
  go_loopw [6, 7] (fun v i wr => ∃ (j g cap k : Nat) (T : List Int), j ≤ m ∧ i = .int .i64 j ∧ v = .slice (some ⟨g, 0, none⟩) k cap ∧ w.heap.size ≤ g ∧ T.length = k ∧ First N rs j T ∧ Own wr g 3 1 k cap T ∧ Below w.heap.size w wr) (fun _ i _ => m - (intOf i).toNat)
  case atStart => exact ⟨0, _, _, 0, [], Nat.zero_le _, rfl, rfl, Nat.le_refl _, rfl, First.start N rs, HO0.out, hB⟩
  case round =>
    clear HO0 hB hs_wa
    obtain ⟨j, g, cap, k, T, hj, rfl, rfl, hg, hTk, hF, how, hbr⟩ := hrel
    have hbs := hbr.size
    have hlo := how.lt
    have hk6 : k ≤ 6 := by have := hF.cnt; omega
    have HO := Lib.hid (And.intro how (And.intro hF hTk))
    by_cases hlt : j < m
    · obtain ⟨r, hr⟩ : ∃ r, rs[j]? = some r := ⟨_, List.getElem?_eq_getElem (by have := H.out.2.1; omega)⟩
      obtain ⟨q0, q1, q2, q3⟩ := hok.out r (List.mem_of_getElem? hr)
      have hsub := hF.sub_ok H.out.2.2 (by have := H.out.2.1; omega)
      have hsl : (sub rs T).length = k := by rw [sub_len]; exact hTk
      have hasc : Asc rs.length T := ⟨fun z hz => by have := hF.asc.rng z hz; have := H.out.2.1; omega, hF.asc.up⟩
      have c2 := fun w h hq => Lib.hid (sSome p (some ⟨g, 0, none⟩) c cap m k rs T w h hq H.out.2.1 hTk hasc (by omega))
      have c3 := fun w p c h => Lib.hid (sLabels_at (p := p) (c := c) w hsl h hsub)
      have hll := labs_len N (sub rs T)
      have e1 := htAt_get (L := labs N (sub rs T)) q0 (by omega)
      have e2 := htAt_get (L := labs N (sub rs T)) q2 (by omega)
      obtain ⟨a, ha⟩ : ∃ a : Nat, r.f = (a : Int) := ⟨r.f.toNat, by omega⟩
      obtain ⟨b, hb⟩ : ∃ b : Nat, r.t = (b : Int) := ⟨r.t.toNat, by omega⟩
      obtain ⟨x, hx⟩ : ∃ x, htAt (labs N (sub rs T)) r.f = x := ⟨_, rfl⟩
      obtain ⟨y, hy⟩ : ∃ y, htAt (labs N (sub rs T)) r.t = y := ⟨_, rfl⟩
      have hskip : x = y → First N rs (j + 1) T := fun e => hF.skip hok.out hr (by rw [hx, hy]; exact e)
      have htake : x ≠ y → First N rs (j + 1) (T ++ [(j : Int)]) := fun e => hF.take hok.out hr (by rw [hx, hy]; exact e)
      rw [hx, ha, Int.toNat_natCast] at e1
      rw [hy, hb, Int.toNat_natCast] at e2
      have haN : a < N := by omega
      have hbN : b < N := by omega
      have HH := Lib.hid (And.intro hr (And.intro ha (And.intro hb (And.intro hskip (And.intro htake (And.intro e1 (And.intro e2 hll)))))))
      generalize labs N (sub rs T) = zs at c3 HH
      clear hr ha hb hskip htake e1 e2 hx hy hll hsub hsl hasc hF how q0 q1 q2 q3 hTk
      go_wp2_with (first | (go_at_call 87; (with_reducible refine ((c2 _ ?_ ?_).out).mono ?_); (focus (exact H.out.1.below (by repeat (first | assumption | exact Below.refl _ _ | (refine below_chain ?_ (by assumption) (by first | omega | (simp <;> omega) | simp)) | (refine Below.alloc ?_ (by first | omega | (simp <;> omega) | simp) _) | (apply below_drewN) | (apply below_drew) | (refine Below.setCell ?_ (by first | omega | (simp <;> omega) | simp) _))); done)); (focus (exact HO.out.1.ints; done)); rintro e ws ⟨gs, cs, rfl, hgs, os, hb_ws⟩; have hs_ws := hb_ws.size; have OS := Lib.hid os; clear os) | (go_at_call 86; (with_reducible refine ((c3 _ _ _ ?_).out).mono ?_); (focus (exact OS.out.runs; done)); rintro e wl ⟨u, rfl, gl, cl, rfl, hgl, ol, hb_wl⟩; have hs_wl := hb_wl.size; have OL := Lib.hid ol; have hll := ol.lt; clear ol))
      have HOl := Lib.hid (HO.out.1.below (w' := wl) (by repeat (first | assumption | exact Below.refl _ _ | (refine below_chain ?_ (by assumption) (by first | omega | (simp <;> omega) | simp)) | (refine Below.alloc ?_ (by first | omega | (simp <;> omega) | simp) _) | (apply below_drewN) | (apply below_drew) | (refine Below.setCell ?_ (by first | omega | (simp <;> omega) | simp) _))))
      obtain ⟨D, o, r', rfl, hr', hD, x0, x1, x2, x3⟩ := ((H.out.1.below hbr).below (w' := wl) (by repeat (first | assumption | exact Below.refl _ _ | (refine below_chain ?_ (by assumption) (by first | omega | (simp <;> omega) | simp)) | (refine Below.alloc ?_ (by first | omega | (simp <;> omega) | simp) _) | (apply below_drewN) | (apply below_drew) | (refine Below.setCell ?_ (by first | omega | (simp <;> omega) | simp) _)))).at (i := j) (by have := H.out.2.1; omega)
      obtain rfl : r = r' := by have := HH.out.1; rw [hr'] at this; cases this; rfl
      have hzl : zs.length = N := HH.out.2.2.2.2.2.2.2
      have d0 := OL.out.cells HH.out.2.2.2.2.2.1
      have d1 := OL.out.cells HH.out.2.2.2.2.2.2.1
      rw [HH.out.2.1] at x0
      rw [HH.out.2.2.1] at x1
      have hbl : Below w.heap.size w wl := hbr.trans ((hb_ws.mono (Nat.le_refl _)).mono hbs |>.trans (hb_wl.mono (by omega)))
      have haz : a < zs.length := by omega
      have hbz : b < zs.length := by omega
      clear hr' c2 c3 hb_ws hb_wl hzl
      by_cases hxy : x = y
      · have hxy' : (x == y) = true := by simpa using hxy
        have HX := Lib.hid (HH.out.2.2.2.1 hxy)
        clear hxy
        (refine wp_region_grows (by kernel_rfl) (by kernel_rfl) ?_; intro W_wg hWc_wg hWs_wg hWe_wg; (repeat (go_big_quiet_step (fail))); with_reducible refine wpQuiet_nil ?_; clear hWe_wg hWs_wg hWc_wg W_wg; intro wg hb_wg; obtain ⟨hc_wg, hf_wg⟩ := bcell hb_wg; (try simp only [World.size_drew, World.cell?_drew, World.frozen?_drew, World.heap_drewN, World.cell?_drewN, World.frozen?_drewN] at hc_wg hf_wg); have hs_wg := hb_wg.size; (try simp at hs_wg))
        go_wp2_with fail
        go_roundw
        case rel => exact ⟨j + 1, g, cap, k, T, by omega, by go_num, rfl, hg, HO.out.2.2, HX.out, HOl.out.below hb_wg, hbl.trans (hb_wg.mono (by have := hbl.size; omega))⟩
        case measure => simp [intOf]; omega
      · have hxy' : (x == y) = false := by simpa using hxy
        have HX := Lib.hid (HH.out.2.2.2.2.1 hxy)
        clear hxy
        (refine wp_region_grows (by kernel_rfl) (by kernel_rfl) ?_; intro W_wg hWc_wg hWs_wg hWe_wg; (repeat (go_big_quiet_step (fail))); with_reducible refine wpQuiet_nil ?_; clear hWe_wg hWs_wg hWc_wg W_wg; intro wg hb_wg; obtain ⟨hc_wg, hf_wg⟩ := bcell hb_wg; (try simp only [World.size_drew, World.cell?_drew, World.frozen?_drew, World.heap_drewN, World.cell?_drewN, World.frozen?_drewN] at hc_wg hf_wg); have hs_wg := hb_wg.size; (try simp at hs_wg))
        go_wp2_with (at_builtin; refine wp_append _ rfl _ _ 24 rfl 3 _ 1 8 Try.underlying24 info_int rfl (by decide) (by decide) _ k cap T rfl ((HOl.out.below hb_wg).alloc _) _ _ _ [(j : Int)] rfl rfl (one_cell _ _ _) (by omega) ?_; intro g' cap' w' hown hgr hloc hsz; have HN := Lib.hid (And.intro hown (And.intro hgr hloc)); clear hown hgr hloc)
        go_roundw
        case rel =>
          obtain ⟨hown, hgr, hloc⟩ := HN.out
          have hwg : w.heap.size ≤ wg.heap.size := by have := hbl.size; have := hb_wg.size; omega
          have hg' : w.heap.size ≤ g' := by
            rcases hloc with rfl | rfl
            · exact hg
            · simp; omega
          exact ⟨j + 1, g', cap', k + 1, T ++ [(j : Int)], by omega, by go_num, rfl, hg', by simp [HO.out.2.2], HX.out, hown, below_gr ((hbl.trans (hb_wg.mono (by have := hbl.size; omega))).alloc hwg _) hgr hg (by simp; omega)⟩
        case measure => simp [intOf]; omega
    · have e : j = m := by omega
      subst e
      clear how hF
      go_wp2_with fail
      exact bodyPost_ret (v := .tuple #[.slice (some ⟨g, 0, none⟩) k cap, .bool true]) (by simp [results, Try.results64, go_sem]) rfl ⟨T, g, cap, k, rfl, by rw [H.out.2.1]; exact HO.out.2.1, HO.out.2.2, hg, HO.out.1, hbr⟩
end Go.Proofs.Ytimghdffmdcheaa
