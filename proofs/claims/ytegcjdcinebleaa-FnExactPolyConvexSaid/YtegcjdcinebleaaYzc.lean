/-
  Whether a polygon is convex, by the reference model.
-/
import Derived.Test.YtegcjdcinebleaaYz
import Derived.Test.YtegcjdcinebleaaYjd
namespace Go.Proofs.Ytegcjdcinebleaa
open Go.RowKit Poly
set_option linter.unusedVariables false

section
variable {p : Option Addr} {c : Nat} {L : List P2} {w : World}
theorem sgn_bd (x : Int) : -1 ≤ sgn x ∧ sgn x ≤ 1 := by unfold sgn; repeat' split
                                                        all_goals omega
/-- the side turns away from the polygon -/
theorem turn_bad {L : List P2} (h : areaL L ≠ 0) (i : Nat) : turnBad L i = decide (sd (cy L i) (cy L (i + 1)) (cy L (i + 2)) = 0 - sgn (areaL L)) := by
  unfold turnBad
  apply decide_eq_decide.2
  have hb := sgn_bd (crs (cy L i) (cy L (i + 1)) (cy L (i + 2)))
  have e : sd (cy L i) (cy L (i + 1)) (cy L (i + 2)) = sgn (crs (cy L i) (cy L (i + 1)) (cy L (i + 2))) := rfl
  rw [e]
  generalize sgn (crs (cy L i) (cy L (i + 1)) (cy L (i + 2))) = t at *
  have ht : t = -1 ∨ t = 0 ∨ t = 1 := by omega
  rcases Int.lt_or_gt_of_ne h with g | g
  · rw [sgn_lt g]
    rcases ht with rfl | rfl | rfl <;> omega
  · rw [sgn_pos g]
    rcases ht with rfl | rfl | rfl <;> omega
theorem rem_two {k n : Nat} (h : k < n) (hn : n ≤ 12) : ((k : Int) + 2).tmod (n : Int) = (((k + 2) % n : Nat) : Int) := by
  rw [show ((k : Int) + 2) = ((k + 2 : Nat) : Int) from by omega]
  exact (Int.ofNat_tmod (k + 2) n).symm
theorem Ints.three (h : Ints w p (fl L)) {k : Nat} (hlt : k < L.length) (h12 : L.length ≤ 12) : ∃ B o m r, p = some ⟨B, o, none⟩ ∧ B < w.heap.size ∧ (w.cell? ⟨B, o + k * 2, none⟩ = some (.int .i64 (cy L k).1) ∧ w.cell? ⟨B, o + k * 2 + 1, none⟩ = some (.int .i64 (cy L k).2)) ∧ m < L.length ∧ ((k : Int) + 1).tmod (L.length : Int) = (m : Int) ∧
    (w.cell? ⟨B, o + m * 2, none⟩ = some (.int .i64 (cy L (k + 1)).1) ∧ w.cell? ⟨B, o + m * 2 + 1, none⟩ = some (.int .i64 (cy L (k + 1)).2)) ∧ r < L.length ∧ ((k : Int) + 2).tmod (L.length : Int) = (r : Int) ∧
    (w.cell? ⟨B, o + r * 2, none⟩ = some (.int .i64 (cy L (k + 2)).1) ∧ w.cell? ⟨B, o + r * 2 + 1, none⟩ = some (.int .i64 (cy L (k + 2)).2)) := by
  obtain ⟨B, o, m, rfl, hB, hc, hml, hrem, hd, hm⟩ := h.two hlt
  have hrl : (k + 2) % L.length < L.length := Nat.mod_lt _ (by omega)
  obtain ⟨B', o', e', hB', d0, d1⟩ := h.pt hrl
  simp at e'
  obtain ⟨rfl, rfl⟩ := e'
  rw [cy_mod] at d0 d1
  exact ⟨B, o, m, _, rfl, hB, hc, hml, hrem, hd, hrl, rem_two hlt h12, d0, d1⟩
theorem sPolyConvex_no (h : Ints w p (fl L)) (hl : L.length ≤ 4000000000000000000) (hv : polyV L = false) :
    Calls Try.prog 32 #[.slice p L.length c] w fun e w' => e = .returned (.bool false) ∧ Below w.heap.size w w' := by
  have c0 := fun w h => Lib.hid (sPolyValid_no (p := p) (c := c) (L := L) (w := w) h hl hv)
  have H := Lib.hid h
  clear h hv
  go_enter Try.func32, Try.ntmps32
  go_wp2_with ((go_at_call 20; (with_reducible refine ((c0 _ ?_).out).mono ?_); (focus ((exact H.out); done)); rintro e wa ⟨rfl, hb_wa⟩; have hs_wa := hb_wa.size; (try simp at hs_wa)))
  go_ret
  exact ⟨rfl, (by repeat (first | assumption | exact Below.refl _ _ | (refine below_chain ?_ (by assumption) (by first | omega | (simp <;> omega) | simp)) | (refine Below.alloc ?_ (by first | omega | (simp <;> omega) | simp) _) | (apply below_drewN) | (apply below_drew) | (refine Below.setCell ?_ (by first | omega | (simp <;> omega) | simp) _)))⟩
theorem any_yes {f : Nat → Bool} {k : Nat} (h : f k = true) : ∀ {n : Nat}, k < n → anyF f n = true
  | 0, hk => by omega
  | n + 1, hk => by
    show (anyF f n || f n) = true
    by_cases e : k = n
    · rw [← e, h]; simp
    · rw [any_yes h (n := n) (by omega)]; rfl
set_option maxHeartbeats 4000000 in
theorem sPolyConvex_yes (h : Ints w p (fl L)) (hl : L.length ≤ 4000000000000000000) (hv : polyV L = true) :
    Calls Try.prog 32 #[.slice p L.length c] w fun e w' => e = .returned (.bool (!(anyF (turnBad L) L.length))) ∧ Below w.heap.size w w' := by
  have c0 := fun w h => Lib.hid (sPolyValid_yes (p := p) (c := c) (L := L) (w := w) h hl hv)
  have hok : okP L = true := (polyV_parts hv).1
  have c1 := fun w h => Lib.hid (sArea (p := p) (c := c) (L := L) (w := w) h hok)
  obtain ⟨s, hs⟩ : ∃ s, sgn (areaL L) = s := ⟨_, rfl⟩
  have c2 := fun w => Lib.hid (sign_is (areaL L) s w hs)
  have hsb := sgn_bd (areaL L)
  have htb := fun i => turn_bad (area_ne hv) i
  rw [hs] at hsb
  simp only [hs] at htb
  have HT := Lib.hid htb
  have H := Lib.hid (And.intro h hok)
  obtain ⟨hl3, hl12⟩ := okP_len hok
  obtain ⟨A, hA⟩ : ∃ A, areaL L = A := ⟨_, rfl⟩
  rw [hA] at c1 c2
  clear h hv hok htb hs hA
  go_enter Try.func32, Try.ntmps32
  go_wp2_with (first | (go_at_call 20; (with_reducible refine ((c0 _ ?_).out).mono ?_); (focus ((exact H.out.1); done)); rintro e wa ⟨rfl, hb_wa⟩; have hs_wa := hb_wa.size; (try simp at hs_wa)) | (go_at_call 74; (with_reducible refine ((c1 _ ?_).out).mono ?_); (focus ((exact H.out.1.below (by repeat (first | assumption | exact Below.refl _ _ | (refine below_chain ?_ (by assumption) (by first | omega | (simp <;> omega) | simp)) | (refine Below.alloc ?_ (by first | omega | (simp <;> omega) | simp) _) | (apply below_drewN) | (apply below_drew) | (refine Below.setCell ?_ (by first | omega | (simp <;> omega) | simp) _)))); done)); rintro e wb ⟨rfl, hb_wb⟩; have hs_wb := hb_wb.size; (try simp at hs_wb)) | (go_at_call 79; (with_reducible refine (c2 _).out.mono ?_); rintro e wc ⟨rfl, rfl⟩))
  have HA := Lib.hid (show Below w.heap.size w wb from (by repeat (first | assumption | exact Below.refl _ _ | (refine below_chain ?_ (by assumption) (by first | omega | (simp <;> omega) | simp)) | (refine Below.alloc ?_ (by first | omega | (simp <;> omega) | simp) _) | (apply below_drewN) | (apply below_drew) | (refine Below.setCell ?_ (by first | omega | (simp <;> omega) | simp) _))))
  clear c0 c1 c2 hb_wa hs_wa hb_wb hs_wb
  go_loopw [5] (fun i wr => ∃ k : Nat, k ≤ L.length ∧ i = .int .i64 k ∧ anyF (turnBad L) k = false ∧ Below w.heap.size w wr) (fun i _ => L.length - (intOf i).toNat)
  case atStart => exact ⟨0, Nat.zero_le _, rfl, rfl, HA.out⟩
  case round =>
    clear HA
    obtain ⟨k, hk, rfl, hany, hb⟩ := hrel
    have hbs := hb.size
    have hv := okP_at H.out.2
    by_cases hlt : k < L.length
    · obtain ⟨B, o, m, r, rfl, hB, ⟨a0, a1⟩, hml, hrem, ⟨b0, b1⟩, hrl, hrem2, d0, d1⟩ := (H.out.1.below hb).three hlt hl12
      have hlt' : (k : Int) < (L.length : Int) := by omega
      have hml' : (m : Int) < (L.length : Int) := by omega
      have hrl' : (r : Int) < (L.length : Int) := by omega
      have cc := fun w => Lib.hid (sSideP (hv k) (hv (k + 1)) (hv (k + 2)) w)
      have ht := HT.out k
      have hu := sgn_bd (crs (cy L k) (cy L (k + 1)) (cy L (k + 2)))
      have e : sd (cy L k) (cy L (k + 1)) (cy L (k + 2)) = sgn (crs (cy L k) (cy L (k + 1)) (cy L (k + 2))) := rfl
      rw [← e] at hu
      have hsn : Hid (anyF (turnBad L) (k + 1) = (anyF (turnBad L) k || turnBad L k)) := Lib.hid rfl
      generalize sd (cy L k) (cy L (k + 1)) (cy L (k + 2)) = t at *
      have HY := Lib.hid (And.intro ht hany)
      clear hv e ht hany
      by_cases hq : t = -s
      · go_wp2_with fail
        (refine wp_region_grows (by kernel_rfl) (by kernel_rfl) ?_; intro W_wg hWc_wg hWs_wg hWe_wg; (repeat (go_big_quiet_step ((go_at_call 80; with_reducible exact Ext.call ((cc _).out))))); with_reducible refine wpQuiet_nil ?_; clear hWe_wg hWs_wg hWc_wg W_wg; intro wg hb_wg; obtain ⟨hc_wg, hf_wg⟩ := bcell hb_wg; (try simp only [World.size_drew, World.cell?_drew, World.frozen?_drew, World.heap_drewN, World.cell?_drewN, World.frozen?_drewN] at hc_wg hf_wg); have hs_wg := hb_wg.size; (try simp at hs_wg))
        go_wp2_with fail
        go_ret
        have ha : anyF (turnBad L) L.length = true := any_yes (k := k) (by rw [HY.out.1]; simp; omega) hlt
        exact ⟨by rw [ha]; rfl, hb.trans (hb_wg.mono hbs)⟩
      · go_wp2_with fail
        (refine wp_region_grows (by kernel_rfl) (by kernel_rfl) ?_; intro W_wg hWc_wg hWs_wg hWe_wg; (repeat (go_big_quiet_step ((go_at_call 80; with_reducible exact Ext.call ((cc _).out))))); with_reducible refine wpQuiet_nil ?_; clear hWe_wg hWs_wg hWc_wg W_wg; intro wg hb_wg; obtain ⟨hc_wg, hf_wg⟩ := bcell hb_wg; (try simp only [World.size_drew, World.cell?_drew, World.frozen?_drew, World.heap_drewN, World.cell?_drewN, World.frozen?_drewN] at hc_wg hf_wg); have hs_wg := hb_wg.size; (try simp at hs_wg))
        go_wp2_with fail
        go_roundw
        case rel => exact ⟨k + 1, by omega, by go_num, by rw [hsn.out, HY.out.1, HY.out.2]; simp; omega, (by repeat (first | assumption | exact Below.refl _ _ | (refine below_chain ?_ (by assumption) (by first | omega | (simp <;> omega) | simp)) | (refine Below.alloc ?_ (by first | omega | (simp <;> omega) | simp) _) | (apply below_drewN) | (apply below_drew) | (refine Below.setCell ?_ (by first | omega | (simp <;> omega) | simp) _)))⟩
        case measure => simp [intOf]; omega
    · have e : k = L.length := by omega
      subst e
      have hlt' : ¬ (L.length : Int) < (L.length : Int) := by omega
      go_wp2_with fail
      go_ret
      exact ⟨rfl, hb⟩
end
end Go.Proofs.Ytegcjdcinebleaa
