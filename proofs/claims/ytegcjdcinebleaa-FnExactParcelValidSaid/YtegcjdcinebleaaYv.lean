/-
  What the reference model's polygons answer: areas, points on the sides, valid.
-/
import Derived.Test.YtegcjdcinebleaaYu
namespace Go.Proofs.Ytegcjdcinebleaa
open Go.RowKit Poly
set_option linter.unusedVariables false

section
variable {p : Option Addr} {c : Nat} {L : List P2} {w : World}
/-- a corner and the next one are read -/
theorem Ints.two (h : Ints w p (fl L)) {k : Nat} (hlt : k < L.length) : ∃ B o m, p = some ⟨B, o, none⟩ ∧ B < w.heap.size ∧ (w.cell? ⟨B, o + k * 2, none⟩ = some (.int .i64 (cy L k).1) ∧ w.cell? ⟨B, o + k * 2 + 1, none⟩ = some (.int .i64 (cy L k).2)) ∧ m < L.length ∧ ((k : Int) + 1).tmod (L.length : Int) = (m : Int) ∧
    (w.cell? ⟨B, o + m * 2, none⟩ = some (.int .i64 (cy L (k + 1)).1) ∧ w.cell? ⟨B, o + m * 2 + 1, none⟩ = some (.int .i64 (cy L (k + 1)).2)) ∧ m = (k + 1) % L.length := by
  obtain ⟨B, o, rfl, hB, c0, c1⟩ := h.pt hlt
  have hml : (k + 1) % L.length < L.length := Nat.mod_lt _ (by omega)
  obtain ⟨B', o', e', hB', d0, d1⟩ := h.pt hml
  simp at e'
  obtain ⟨rfl, rfl⟩ := e'
  rw [cy_mod] at d0 d1
  exact ⟨B, o, _, rfl, hB, ⟨c0, c1⟩, hml, rem_next hlt, ⟨d0, d1⟩, rfl⟩
theorem lCrossP {a b : P2} (ha : pvP a = true) (hb : pvP b = true) (w : World) :
    Calls Try.prog 104 #[.agg #[.int .i64 a.1, .int .i64 a.2], .agg #[.int .i64 b.1, .int .i64 b.2]] w fun e w' => e = .returned (.int .i64 (crP a b)) ∧ Below w.heap.size w w' :=
  l2Cross_any a.1 a.2 b.1 b.2 w (sv_pv ha) (sv_pv hb)
set_option maxHeartbeats 2000000 in
theorem sArea (h : Ints w p (fl L)) (hok : okP L = true) :
    Calls Try.prog 74 #[.slice p L.length c] w fun e w' => e = .returned (.int .i64 (areaL L)) ∧ Below w.heap.size w w' := by
  have H := Lib.hid (And.intro h hok)
  obtain ⟨hl3, hl12⟩ := okP_len hok
  clear h hok
  go_enter Try.func74, Try.ntmps74
  go_wp2_with fail
  go_loopw [3, 4] (fun s i wr => ∃ k : Nat, k ≤ L.length ∧ i = .int .i64 k ∧ s = .int .i64 (sumF (fun i => crP (cy L i) (cy L (i + 1))) k) ∧ Below w.heap.size w wr) (fun _ i _ => L.length - (intOf i).toNat)
  case atStart => exact ⟨0, Nat.zero_le _, rfl, rfl, (by repeat (first | assumption | exact Below.refl _ _ | (refine below_chain ?_ (by assumption) (by first | omega | (simp <;> omega) | simp)) | (refine Below.alloc ?_ (by first | omega | (simp <;> omega) | simp) _) | (apply below_drewN) | (apply below_drew) | (refine Below.setCell ?_ (by first | omega | (simp <;> omega) | simp) _)))⟩
  case round =>
    obtain ⟨k, hk, rfl, rfl, hb⟩ := hrel
    have hbs := hb.size
    have hv := okP_at H.out.2
    have hsm := area_to H.out.2 k (by omega)
    by_cases hlt : k < L.length
    · obtain ⟨B, o, m, rfl, hB, ⟨c0, c1⟩, hml, hrem, ⟨d0, d1⟩, hm⟩ := (H.out.1.below hb).two hlt
      have hlt' : (k : Int) < (L.length : Int) := by omega
      have hml' : (m : Int) < (L.length : Int) := by omega
      have cc := fun w => Lib.hid (lCrossP (hv k) (hv (k + 1)) w)
      have hcb := crP_bd (hv k) (hv (k + 1))
      have hsn : Hid (sumF (fun i => crP (cy L i) (cy L (i + 1))) (k + 1) = sumF (fun i => crP (cy L i) (cy L (i + 1))) k + crP (cy L k) (cy L (k + 1))) := Lib.hid rfl
      generalize crP (cy L k) (cy L (k + 1)) = t at *
      obtain ⟨s, hs⟩ : ∃ s, sumF (fun i => crP (cy L i) (cy L (i + 1))) k = s := ⟨_, rfl⟩
      rw [hs] at hsm hsn ⊢
      clear hv hm hs
      have hb0 : w.heap.size ≤ wr.heap.size := hbs
      go_wp2_with fail
      (refine wp_region_grows (by kernel_rfl) (by kernel_rfl) ?_; intro W_wg hWc_wg hWs_wg hWe_wg; (repeat (go_big_quiet_step ((go_at_call 104; with_reducible exact Ext.call ((cc _).out))))); with_reducible refine wpQuiet_nil ?_; clear hWe_wg hWs_wg hWc_wg W_wg; intro wg hb_wg; obtain ⟨hc_wg, hf_wg⟩ := bcell hb_wg; (try simp only [World.size_drew, World.cell?_drew, World.frozen?_drew, World.heap_drewN, World.cell?_drewN, World.frozen?_drewN] at hc_wg hf_wg); have hs_wg := hb_wg.size; (try simp at hs_wg))
      go_wp2_with fail
      go_roundw
      case rel => exact ⟨k + 1, by omega, by go_num, by rw [hsn.out], (by repeat (first | assumption | exact Below.refl _ _ | (refine below_chain ?_ (by assumption) (by first | omega | (simp <;> omega) | simp)) | (refine Below.alloc ?_ (by first | omega | (simp <;> omega) | simp) _) | (apply below_drewN) | (apply below_drew) | (refine Below.setCell ?_ (by first | omega | (simp <;> omega) | simp) _)))⟩
      case measure => simp [intOf]; omega
    · have e : k = L.length := by omega
      subst e
      have hlt' : ¬ (L.length : Int) < (L.length : Int) := by omega
      clear hv
      go_wp2_with fail
      go_ret
      exact ⟨rfl, (by repeat (first | assumption | exact Below.refl _ _ | (refine below_chain ?_ (by assumption) (by first | omega | (simp <;> omega) | simp)) | (refine Below.alloc ?_ (by first | omega | (simp <;> omega) | simp) _) | (apply below_drewN) | (apply below_drew) | (refine Below.setCell ?_ (by first | omega | (simp <;> omega) | simp) _)))⟩
end
end Go.Proofs.Ytegcjdcinebleaa
