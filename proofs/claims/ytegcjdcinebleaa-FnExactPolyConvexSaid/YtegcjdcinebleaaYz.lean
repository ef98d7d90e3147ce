/-
  What the reference model answers of a polygon's sides, its inside, a point's place, and whether it is convex.
-/
import Derived.Test.YtegcjdcinebleaaYsp
namespace Go.Proofs.Ytegcjdcinebleaa
open Go.RowKit Poly
set_option linter.unusedVariables false

section
variable {p : Option Addr} {c : Nat} {L : List P2} {w : World}
theorem sGapsP {a b : P2} (ha : pvP a = true) (hb : pvP b = true) (w : World) :
    Calls Try.prog 107 #[.agg #[.int .i64 a.1, .int .i64 a.2], .agg #[.int .i64 b.1, .int .i64 b.2]] w fun e w' => e = .returned (.int .i64 (gapP a b)) ∧ Below w.heap.size w w' := by
  have := sGaps_any a.1 a.2 b.1 b.2 w
  rw [show both a.1 a.2 b.1 b.2 = true by unfold both; unfold pvP at ha hb; rw [ha, hb]; rfl] at this
  exact this
theorem sPolyEdge_no (h : Ints w p (fl L)) (hl : L.length ≤ 4000000000000000000) (hv : polyV L = false) :
    Calls Try.prog 72 #[.slice p L.length c] w fun e w' => e = .returned (.int .i64 (-1)) ∧ Below w.heap.size w w' := by
  have c0 := fun w h => Lib.hid (sPolyValid_no (p := p) (c := c) (L := L) (w := w) h hl hv)
  have H := Lib.hid h
  clear h hv
  go_enter Try.func72, Try.ntmps72
  go_wp2_with ((go_at_call 20; (with_reducible refine ((c0 _ ?_).out).mono ?_); (focus ((exact H.out); done)); rintro e wa ⟨rfl, hb_wa⟩; have hs_wa := hb_wa.size; (try simp at hs_wa)))
  go_ret
  exact ⟨rfl, (by repeat (first | assumption | exact Below.refl _ _ | (refine below_chain ?_ (by assumption) (by first | omega | (simp <;> omega) | simp)) | (refine Below.alloc ?_ (by first | omega | (simp <;> omega) | simp) _) | (apply below_drewN) | (apply below_drew) | (refine Below.setCell ?_ (by first | omega | (simp <;> omega) | simp) _)))⟩
set_option maxHeartbeats 2000000 in
theorem sPolyEdge_yes (h : Ints w p (fl L)) (hl : L.length ≤ 4000000000000000000) (hv : polyV L = true) :
    Calls Try.prog 72 #[.slice p L.length c] w fun e w' => e = .returned (.int .i64 (edgeL L)) ∧ Below w.heap.size w w' := by
  have c0 := fun w h => Lib.hid (sPolyValid_yes (p := p) (c := c) (L := L) (w := w) h hl hv)
  have hok : okP L = true := by unfold polyV at hv; rw [Bool.and_eq_true] at hv; exact hv.1
  have H := Lib.hid (And.intro h hok)
  obtain ⟨hl3, hl12⟩ := okP_len hok
  clear h hv hok
  go_enter Try.func72, Try.ntmps72
  go_wp2_with ((go_at_call 20; (with_reducible refine ((c0 _ ?_).out).mono ?_); (focus ((exact H.out.1); done)); rintro e wa ⟨rfl, hb_wa⟩; have hs_wa := hb_wa.size; (try simp at hs_wa)))
  have HA := Lib.hid hb_wa
  clear c0 hb_wa hs_wa
  go_loopw [3, 4] (fun s i wr => ∃ k : Nat, k ≤ L.length ∧ i = .int .i64 k ∧ s = .int .i64 (sumF (fun i => gapP (cy L i) (cy L (i + 1))) k) ∧ Below w.heap.size w wr) (fun _ i _ => L.length - (intOf i).toNat)
  case atStart => exact ⟨0, Nat.zero_le _, rfl, rfl, HA.out⟩
  case round =>
    clear HA
    obtain ⟨k, hk, rfl, rfl, hb⟩ := hrel
    have hbs := hb.size
    have hv := okP_at H.out.2
    have hsm := edge_to H.out.2 k (by omega)
    by_cases hlt : k < L.length
    · obtain ⟨B, o, m, rfl, hB, ⟨c0, c1⟩, hml, hrem, ⟨d0, d1⟩, hm⟩ := (H.out.1.below hb).two hlt
      have hlt' : (k : Int) < (L.length : Int) := by omega
      have hml' : (m : Int) < (L.length : Int) := by omega
      have cc := fun w => Lib.hid (sGapsP (hv k) (hv (k + 1)) w)
      have hcb := gapP_bd (hv k) (hv (k + 1))
      have hsn : Hid (sumF (fun i => gapP (cy L i) (cy L (i + 1))) (k + 1) = sumF (fun i => gapP (cy L i) (cy L (i + 1))) k + gapP (cy L k) (cy L (k + 1))) := Lib.hid rfl
      generalize gapP (cy L k) (cy L (k + 1)) = t at *
      obtain ⟨s, hs⟩ : ∃ s, sumF (fun i => gapP (cy L i) (cy L (i + 1))) k = s := ⟨_, rfl⟩
      rw [hs] at hsm hsn ⊢
      clear hv hm hs
      go_wp2_with fail
      (refine wp_region_grows (by kernel_rfl) (by kernel_rfl) ?_; intro W_wg hWc_wg hWs_wg hWe_wg; (repeat (go_big_quiet_step ((go_at_call 107; with_reducible exact Ext.call ((cc _).out))))); with_reducible refine wpQuiet_nil ?_; clear hWe_wg hWs_wg hWc_wg W_wg; intro wg hb_wg; obtain ⟨hc_wg, hf_wg⟩ := bcell hb_wg; (try simp only [World.size_drew, World.cell?_drew, World.frozen?_drew, World.heap_drewN, World.cell?_drewN, World.frozen?_drewN] at hc_wg hf_wg); have hs_wg := hb_wg.size; (try simp at hs_wg))
      go_wp2_with fail
      go_roundw
      case rel => exact ⟨k + 1, by omega, by go_num, by rw [hsn.out], (by repeat (first | assumption | exact Below.refl _ _ | (refine below_chain ?_ (by assumption) (by first | omega | (simp <;> omega) | simp)) | (refine Below.alloc ?_ (by first | omega | (simp <;> omega) | simp) _) | (apply below_drewN) | (apply below_drew) | (refine Below.setCell ?_ (by first | omega | (simp <;> omega) | simp) _)))⟩
      case measure => simp [intOf]; omega
    · have e : k = L.length := by omega
      subst e
      have hlt' : ¬ (L.length : Int) < (L.length : Int) := by omega
      clear hv
      go_wp2_with fail
      go_ret
      exact ⟨rfl, (by repeat (first | assumption | exact Below.refl _ _ | (refine below_chain ?_ (by assumption) (by first | omega | (simp <;> omega) | simp)) | (refine Below.alloc ?_ (by first | omega | (simp <;> omega) | simp) _) | (apply below_drewN) | (apply below_drew) | (refine Below.setCell ?_ (by first | omega | (simp <;> omega) | simp) _)))⟩
theorem sPolyInside_no (h : Ints w p (fl L)) (hl : L.length ≤ 4000000000000000000) (hv : polyV L = false) :
    Calls Try.prog 27 #[.slice p L.length c] w fun e w' => e = .returned (.int .i64 (-1)) ∧ Below w.heap.size w w' := by
  have c0 := fun w h => Lib.hid (sPolyEdge_no (p := p) (c := c) (L := L) (w := w) h hl hv)
  have H := Lib.hid h
  clear h hv
  go_enter Try.func27, Try.ntmps27
  go_wp2_with ((go_at_call 72; (with_reducible refine ((c0 _ ?_).out).mono ?_); (focus ((exact H.out); done)); rintro e wa ⟨rfl, hb_wa⟩; have hs_wa := hb_wa.size; (try simp at hs_wa)))
  go_ret
  exact ⟨rfl, (by repeat (first | assumption | exact Below.refl _ _ | (refine below_chain ?_ (by assumption) (by first | omega | (simp <;> omega) | simp)) | (refine Below.alloc ?_ (by first | omega | (simp <;> omega) | simp) _) | (apply below_drewN) | (apply below_drew) | (refine Below.setCell ?_ (by first | omega | (simp <;> omega) | simp) _)))⟩
theorem sPolyInside_yes (h : Ints w p (fl L)) (hl : L.length ≤ 4000000000000000000) (hv : polyV L = true) :
    Calls Try.prog 27 #[.slice p L.length c] w fun e w' => e = .returned (.int .i64 (insideL L)) ∧ Below w.heap.size w w' := by
  have hok : okP L = true := by unfold polyV at hv; rw [Bool.and_eq_true] at hv; exact hv.1
  have ha := area_bd hok
  have he := edge_bd hok
  have c0 := fun w h => Lib.hid (sPolyEdge_yes (p := p) (c := c) (L := L) (w := w) h hl hv)
  have c1 := fun w h => Lib.hid (sArea (p := p) (c := c) (L := L) (w := w) h hok)
  have c2 := fun w => Lib.hid (size_any (areaL L) w (by omega) (by omega))
  have H := Lib.hid h
  unfold insideL
  generalize areaL L = a at *
  generalize edgeL L = b at *
  have hn : ¬ b < 0 := by omega
  clear h hv hok
  go_enter Try.func27, Try.ntmps27
  go_wp2_with (first | (go_at_call 72; (with_reducible refine ((c0 _ ?_).out).mono ?_); (focus ((exact H.out); done)); rintro e wa ⟨rfl, hb_wa⟩; have hs_wa := hb_wa.size; (try simp at hs_wa)) | (go_at_call 74; (with_reducible refine ((c1 _ ?_).out).mono ?_); (focus ((exact H.out.below hb_wa); done)); rintro e wb ⟨rfl, hb_wb⟩; have hs_wb := hb_wb.size; (try simp at hs_wb)) | (go_at_call 73; (with_reducible refine ((c2 _).out).mono ?_); rintro e w' ⟨rfl, rfl⟩))
  go_ret
  exact ⟨rfl, (by repeat (first | assumption | exact Below.refl _ _ | (refine below_chain ?_ (by assumption) (by first | omega | (simp <;> omega) | simp)) | (refine Below.alloc ?_ (by first | omega | (simp <;> omega) | simp) _) | (apply below_drewN) | (apply below_drew) | (refine Below.setCell ?_ (by first | omega | (simp <;> omega) | simp) _)))⟩
end
end Go.Proofs.Ytegcjdcinebleaa
