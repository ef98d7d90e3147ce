/-
  Where a point lies, and whether a polygon is convex, by the reference model.
-/
import Derived.Test.YthecapioagogbaaYz
namespace Go.Proofs.Ythecapioagogbaa
open Go.RowKit Poly
set_option linter.unusedVariables false

section
variable {p : Option Addr} {c : Nat} {L : List P2} {w : World}
/-- whether an odd number of the first k sides is crossed -/
def odK (L : List P2) (z : P2) (k : Nat) : Bool := oddF (fun i => east (cy L i) (cy L (i + 1)) z) k
theorem odK_succ (L : List P2) (z : P2) (k : Nat) : odK L z (k + 1) = xor (odK L z k) (east (cy L k) (cy L (k + 1)) z) := rfl
set_option maxHeartbeats 4000000 in
theorem sOdd (h : Ints w p (fl L)) (hok : okP L = true) {z : P2} (hz : pvP z = true) :
    Calls Try.prog 61 #[.slice p L.length c, .agg #[.int .i64 z.1, .int .i64 z.2]] w fun e w' => e = .returned (.bool (oddL L z)) ∧ Below w.heap.size w w' := by
  have H := Lib.hid (And.intro h (And.intro hok hz))
  obtain ⟨hl3, hl12⟩ := okP_len hok
  have hod : oddL L z = odK L z L.length := rfl
  rw [hod]
  clear h hok hz hod
  obtain ⟨zx, zy⟩ := z
  go_enter Try.func61, Try.ntmps61
  go_wp2_with fail
  obtain ⟨V, hV⟩ : ∃ V, V = w.alloc (.cells #[.int .i64 zx, .int .i64 zy] 31) := ⟨_, rfl⟩
  obtain ⟨S, hS⟩ : ∃ S, S = w.heap.size := ⟨_, rfl⟩
  have hbV : Below w.heap.size w V := by rw [hV]; exact (by repeat (first | assumption | exact Below.refl _ _ | (refine below_chain ?_ (by assumption) (by first | omega | (simp <;> omega) | simp)) | (refine Below.alloc ?_ (by first | omega | (simp <;> omega) | simp) _) | (apply below_drewN) | (apply below_drew) | (refine Below.setCell ?_ (by first | omega | (simp <;> omega) | simp) _)))
  have z0 : V.cell? ⟨S, 0, none⟩ = some (.int .i64 zx) ∧ V.cell? ⟨S, 1, none⟩ = some (.int .i64 zy) := by rw [hV, hS]; simp [go_sem]
  have hsV : S < V.heap.size := by rw [hV, hS]; simp
  rw [← hV, ← hS]
  have HV := Lib.hid (And.intro hbV z0)
  clear hV hS hbV z0
  go_loopw [5, 6] (fun s i wr => ∃ k : Nat, k ≤ L.length ∧ i = .int .i64 k ∧ s = .bool (odK L (zx, zy) k) ∧ Below V.heap.size V wr) (fun _ i _ => L.length - (intOf i).toNat)
  case atStart => exact ⟨0, Nat.zero_le _, rfl, rfl, Below.refl _ _⟩
  case round =>
    obtain ⟨k, hk, rfl, rfl, hb⟩ := hrel
    have hbs := hb.size
    have hv := okP_at H.out.2.1
    by_cases hlt : k < L.length
    · have hlt' : (k : Int) < (L.length : Int) := by omega
      obtain ⟨B, o, m, rfl, hB, ⟨a0, a1⟩, hml, hrem, ⟨b0, b1⟩, hm⟩ := ((H.out.1.below HV.out.1).below hb).two hlt
      have hz0 := (hb.cell (p := ⟨S, 0, none⟩) hsV).trans HV.out.2.1
      have hz1 := (hb.cell (p := ⟨S, 1, none⟩) hsV).trans HV.out.2.2
      have hi1 : 0 ≤ ((k : Int) + 1) % (L.length : Int) ∧ ((k : Int) + 1) % (L.length : Int) < (L.length : Int) := ⟨Int.emod_nonneg _ (by omega), Int.emod_lt_of_pos _ (by omega)⟩
      subst hm
      have hSr : S < wr.heap.size := by omega
      have hSr2 : S < wr.heap.size + 1 := by omega
      have hBa : B < wr.heap.size + 1 := by omega
      have cc := fun w => Lib.hid (sSideP (hv k) (hv (k + 1)) H.out.2.2 w)
      have hsd := sd_bd (cy L k) (cy L (k + 1)) (zx, zy)
      have hsu := odK_succ L (zx, zy) k
      have hep : 0 < sd (cy L k) (cy L (k + 1)) (zx, zy) ↔ 0 < crs (cy L k) (cy L (k + 1)) (zx, zy) := by have := sd_pos (a := cy L k) (b := cy L (k + 1)) (p := (zx, zy)); simpa using this
      have hen : sd (cy L k) (cy L (k + 1)) (zx, zy) < 0 ↔ crs (cy L k) (cy L (k + 1)) (zx, zy) < 0 := by have := sd_neg (a := cy L k) (b := cy L (k + 1)) (p := (zx, zy)); simpa using this
      have hea : east (cy L k) (cy L (k + 1)) (zx, zy) = if (cy L k).2 ≤ zy ∧ zy < (cy L (k + 1)).2 then decide (0 < sd (cy L k) (cy L (k + 1)) (zx, zy)) else if (cy L (k + 1)).2 ≤ zy ∧ zy < (cy L k).2 then decide (sd (cy L k) (cy L (k + 1)) (zx, zy) < 0) else false := by
        unfold east; rw [decide_eq_decide.2 hep, decide_eq_decide.2 hen]
      rw [hea] at hsu
      dsimp only at cc
      generalize sd (cy L k) (cy L (k + 1)) (zx, zy) = t at *
      generalize cy L (k + 1) = pb at *
      generalize cy L k = pa at *
      obtain ⟨ax, ay⟩ := pa
      obtain ⟨bx, b_y⟩ := pb
      dsimp only at *
      obtain ⟨s, hs⟩ : ∃ s, odK L (zx, zy) k = s := ⟨_, rfl⟩
      obtain ⟨s', hs'⟩ : ∃ s, odK L (zx, zy) (k + 1) = s := ⟨_, rfl⟩
      rw [hs, hs'] at hsu
      rw [hs]
      have HS := Lib.hid (And.intro hb hs')
      clear hv hep hen hea hs hs' hb
      by_cases h1 : ay ≤ zy ∧ zy < b_y
      · rw [if_pos h1] at hsu
        obtain ⟨h1, h2⟩ := h1
        have g1 : ¬ zy < ay := by omega
        have g2 : ay < b_y := by omega
        have g3 : ¬ b_y < ay := by omega
        by_cases ht : 0 < t
        · skip
          have HF := Lib.hid (show s' = !s by rw [hsu, decide_eq_true ht]; simp)
          clear hsu
          go_wp2_with ((go_at_call 65; (with_reducible refine ((cc _).out).mono ?_); rintro e wa ⟨rfl, hb_wa⟩; have hs_wa := hb_wa.size; (try simp at hs_wa)); obtain ⟨hc_wa, hf_wa⟩ := bcell hb_wa; (have u1 : wr.heap.size < wa.heap.size := by omega); (have u2 : wr.heap.size + 1 < wa.heap.size := by omega))
          go_roundw
          case rel => exact ⟨k + 1, by omega, by go_num, by rw [HS.out.2, HF.out], HS.out.1.trans ((show Below wr.heap.size wr _ from (by repeat (first | assumption | exact Below.refl _ _ | (refine below_chain ?_ (by assumption) (by first | omega | (simp <;> omega) | simp)) | (refine Below.alloc ?_ (by first | omega | (simp <;> omega) | simp) _) | (apply below_drewN) | (apply below_drew) | (refine Below.setCell ?_ (by first | omega | (simp <;> omega) | simp) _)))).mono hbs)⟩
          case measure => simp [intOf]; omega
        · skip
          have HF := Lib.hid (show s' = s by rw [hsu, decide_eq_false ht]; simp)
          clear hsu
          go_wp2_with ((go_at_call 65; (with_reducible refine ((cc _).out).mono ?_); rintro e wa ⟨rfl, hb_wa⟩; have hs_wa := hb_wa.size; (try simp at hs_wa)); obtain ⟨hc_wa, hf_wa⟩ := bcell hb_wa; (have u1 : wr.heap.size < wa.heap.size := by omega); (have u2 : wr.heap.size + 1 < wa.heap.size := by omega))
          go_roundw
          case rel => exact ⟨k + 1, by omega, by go_num, by rw [HS.out.2, HF.out], HS.out.1.trans ((show Below wr.heap.size wr _ from (by repeat (first | assumption | exact Below.refl _ _ | (refine below_chain ?_ (by assumption) (by first | omega | (simp <;> omega) | simp)) | (refine Below.alloc ?_ (by first | omega | (simp <;> omega) | simp) _) | (apply below_drewN) | (apply below_drew) | (refine Below.setCell ?_ (by first | omega | (simp <;> omega) | simp) _)))).mono hbs)⟩
          case measure => simp [intOf]; omega
      · rw [if_neg h1] at hsu
        by_cases h2 : b_y ≤ zy ∧ zy < ay
        · rw [if_pos h2] at hsu
          obtain ⟨h2, h3⟩ := h2
          have g1 : ¬ zy < b_y := by omega
          have g2 : b_y < ay := by omega
          have g3 : ¬ ay < b_y := by omega
          clear h1
          by_cases ht : t < 0
          · skip
            have HF := Lib.hid (show s' = !s by rw [hsu, decide_eq_true ht]; simp)
            clear hsu
            go_wp2_with ((go_at_call 65; (with_reducible refine ((cc _).out).mono ?_); rintro e wa ⟨rfl, hb_wa⟩; have hs_wa := hb_wa.size; (try simp at hs_wa)); obtain ⟨hc_wa, hf_wa⟩ := bcell hb_wa; (have u1 : wr.heap.size < wa.heap.size := by omega); (have u2 : wr.heap.size + 1 < wa.heap.size := by omega))
            go_roundw
            case rel => exact ⟨k + 1, by omega, by go_num, by rw [HS.out.2, HF.out], HS.out.1.trans ((show Below wr.heap.size wr _ from (by repeat (first | assumption | exact Below.refl _ _ | (refine below_chain ?_ (by assumption) (by first | omega | (simp <;> omega) | simp)) | (refine Below.alloc ?_ (by first | omega | (simp <;> omega) | simp) _) | (apply below_drewN) | (apply below_drew) | (refine Below.setCell ?_ (by first | omega | (simp <;> omega) | simp) _)))).mono hbs)⟩
            case measure => simp [intOf]; omega
          · skip
            have HF := Lib.hid (show s' = s by rw [hsu, decide_eq_false ht]; simp)
            clear hsu
            go_wp2_with ((go_at_call 65; (with_reducible refine ((cc _).out).mono ?_); rintro e wa ⟨rfl, hb_wa⟩; have hs_wa := hb_wa.size; (try simp at hs_wa)); obtain ⟨hc_wa, hf_wa⟩ := bcell hb_wa; (have u1 : wr.heap.size < wa.heap.size := by omega); (have u2 : wr.heap.size + 1 < wa.heap.size := by omega))
            go_roundw
            case rel => exact ⟨k + 1, by omega, by go_num, by rw [HS.out.2, HF.out], HS.out.1.trans ((show Below wr.heap.size wr _ from (by repeat (first | assumption | exact Below.refl _ _ | (refine below_chain ?_ (by assumption) (by first | omega | (simp <;> omega) | simp)) | (refine Below.alloc ?_ (by first | omega | (simp <;> omega) | simp) _) | (apply below_drewN) | (apply below_drew) | (refine Below.setCell ?_ (by first | omega | (simp <;> omega) | simp) _)))).mono hbs)⟩
            case measure => simp [intOf]; omega
        · rw [if_neg h2] at hsu
          have HF := Lib.hid (show s' = s by rw [hsu]; simp)
          rcases (show (zy < ay ∧ zy < b_y) ∨ (¬ zy < ay ∧ ¬ zy < b_y) by omega) with ⟨g1, g2⟩ | ⟨g1, g2⟩
          · clear hsu h1 h2
            go_wp2_with fail
            go_roundw
            case rel => exact ⟨k + 1, by omega, by go_num, by rw [HS.out.2, HF.out], HS.out.1.trans ((show Below wr.heap.size wr _ from (by repeat (first | assumption | exact Below.refl _ _ | (refine below_chain ?_ (by assumption) (by first | omega | (simp <;> omega) | simp)) | (refine Below.alloc ?_ (by first | omega | (simp <;> omega) | simp) _) | (apply below_drewN) | (apply below_drew) | (refine Below.setCell ?_ (by first | omega | (simp <;> omega) | simp) _)))).mono hbs)⟩
            case measure => simp [intOf]; omega
          · clear hsu h1 h2
            go_wp2_with fail
            go_roundw
            case rel => exact ⟨k + 1, by omega, by go_num, by rw [HS.out.2, HF.out], HS.out.1.trans ((show Below wr.heap.size wr _ from (by repeat (first | assumption | exact Below.refl _ _ | (refine below_chain ?_ (by assumption) (by first | omega | (simp <;> omega) | simp)) | (refine Below.alloc ?_ (by first | omega | (simp <;> omega) | simp) _) | (apply below_drewN) | (apply below_drew) | (refine Below.setCell ?_ (by first | omega | (simp <;> omega) | simp) _)))).mono hbs)⟩
            case measure => simp [intOf]; omega
    · have e : k = L.length := by omega
      subst e
      have hlt' : ¬ (L.length : Int) < (L.length : Int) := by omega
      clear hv
      go_wp2_with fail
      go_ret
      exact ⟨rfl, HV.out.1.trans (hb.mono (HV.out.1.size))⟩
theorem sPolyPlace_no (h : Ints w p (fl L)) (hl : L.length ≤ 4000000000000000000) (z : P2) (hv : polyV L = false) :
    Calls Try.prog 30 #[.slice p L.length c, .agg #[.int .i64 z.1, .int .i64 z.2]] w fun e w' => e = .returned (.tuple #[.int .i64 0, .bool false]) ∧ Below w.heap.size w w' := by
  have c0 := fun w h => Lib.hid (sPolyValid_no (p := p) (c := c) (L := L) (w := w) h hl hv)
  have H := Lib.hid h
  clear h hv
  go_enter Try.func30, Try.ntmps30
  go_wp2_with ((go_at_call 17; (with_reducible refine ((c0 _ ?_).out).mono ?_); (focus ((exact H.out.below (by repeat (first | assumption | exact Below.refl _ _ | (refine below_chain ?_ (by assumption) (by first | omega | (simp <;> omega) | simp)) | (refine Below.alloc ?_ (by first | omega | (simp <;> omega) | simp) _) | (apply below_drewN) | (apply below_drew) | (refine Below.setCell ?_ (by first | omega | (simp <;> omega) | simp) _)))); done)); rintro e wa ⟨rfl, hb_wa⟩; have hs_wa := hb_wa.size; (try simp at hs_wa)))
  exact bodyPost_ret (v := .tuple #[.int .i64 0, .bool false]) (by simp [results, Try.results30, go_sem]) rfl ⟨rfl, (by repeat (first | assumption | exact Below.refl _ _ | (refine below_chain ?_ (by assumption) (by first | omega | (simp <;> omega) | simp)) | (refine Below.alloc ?_ (by first | omega | (simp <;> omega) | simp) _) | (apply below_drewN) | (apply below_drew) | (refine Below.setCell ?_ (by first | omega | (simp <;> omega) | simp) _)))⟩
theorem sPolyPlace_off (h : Ints w p (fl L)) (hl : L.length ≤ 4000000000000000000) (z : P2) (hv : polyV L = true) (hz : pvP z = false) :
    Calls Try.prog 30 #[.slice p L.length c, .agg #[.int .i64 z.1, .int .i64 z.2]] w fun e w' => e = .returned (.tuple #[.int .i64 0, .bool false]) ∧ Below w.heap.size w w' := by
  have c0 := fun w h => Lib.hid (sPolyValid_yes (p := p) (c := c) (L := L) (w := w) h hl hv)
  have c1 := fun w => Lib.hid (spv_is z.1 z.2 false w hz)
  have H := Lib.hid h
  clear h hv hz
  go_enter Try.func30, Try.ntmps30
  go_wp2_with (first | ((go_at_call 17; (with_reducible refine ((c0 _ ?_).out).mono ?_); (focus ((exact H.out.below (by repeat (first | assumption | exact Below.refl _ _ | (refine below_chain ?_ (by assumption) (by first | omega | (simp <;> omega) | simp)) | (refine Below.alloc ?_ (by first | omega | (simp <;> omega) | simp) _) | (apply below_drewN) | (apply below_drew) | (refine Below.setCell ?_ (by first | omega | (simp <;> omega) | simp) _)))); done)); rintro e wa ⟨rfl, hb_wa⟩; have hs_wa := hb_wa.size; (try simp at hs_wa)); obtain ⟨hc_wa, hf_wa⟩ := bcell hb_wa; have hz_wa : w.heap.size < wa.heap.size := by omega) | (go_at_call 60; (with_reducible refine ((c1 _).out).mono ?_); rintro e wb ⟨rfl, hb_wb⟩; have hs_wb := hb_wb.size; (try simp at hs_wb)))
  exact bodyPost_ret (v := .tuple #[.int .i64 0, .bool false]) (by simp [results, Try.results30, go_sem]) rfl ⟨rfl, (by repeat (first | assumption | exact Below.refl _ _ | (refine below_chain ?_ (by assumption) (by first | omega | (simp <;> omega) | simp)) | (refine Below.alloc ?_ (by first | omega | (simp <;> omega) | simp) _) | (apply below_drewN) | (apply below_drew) | (refine Below.setCell ?_ (by first | omega | (simp <;> omega) | simp) _)))⟩
set_option maxHeartbeats 4000000 in
theorem sPolyPlace_yes (h : Ints w p (fl L)) (hl : L.length ≤ 4000000000000000000) (z : P2) (hv : polyV L = true) (hz : pvP z = true) :
    Calls Try.prog 30 #[.slice p L.length c, .agg #[.int .i64 z.1, .int .i64 z.2]] w fun e w' => e = .returned (.tuple #[.int .i64 (placeL L z), .bool true]) ∧ Below w.heap.size w w' := by
  have hok : okP L = true := by unfold polyV at hv; rw [Bool.and_eq_true] at hv; exact hv.1
  obtain ⟨hl3, hl12⟩ := okP_len hok
  have c0 := fun w h => Lib.hid (sPolyValid_yes (p := p) (c := c) (L := L) (w := w) h hl hv)
  have c1 := fun w => Lib.hid (spv_is z.1 z.2 true w hz)
  have c2 := fun w h => Lib.hid (sOdd (p := p) (c := c) (L := L) (w := w) h hok hz)
  have H := Lib.hid (And.intro h (And.intro hok hz))
  clear h hv hz hok
  obtain ⟨zx, zy⟩ := z
  dsimp only at *
  go_enter Try.func30, Try.ntmps30
  go_wp2_with (first | ((go_at_call 17; (with_reducible refine ((c0 _ ?_).out).mono ?_); (focus ((exact H.out.1.below (by repeat (first | assumption | exact Below.refl _ _ | (refine below_chain ?_ (by assumption) (by first | omega | (simp <;> omega) | simp)) | (refine Below.alloc ?_ (by first | omega | (simp <;> omega) | simp) _) | (apply below_drewN) | (apply below_drew) | (refine Below.setCell ?_ (by first | omega | (simp <;> omega) | simp) _)))); done)); rintro e wa ⟨rfl, hb_wa⟩; have hs_wa := hb_wa.size; (try simp at hs_wa)); obtain ⟨hc_wa, hf_wa⟩ := bcell hb_wa; have hz_wa : w.heap.size < wa.heap.size := by omega) | (go_at_call 60; (with_reducible refine ((c1 _).out).mono ?_); rintro e wb ⟨rfl, hb_wb⟩; have hs_wb := hb_wb.size; (try simp at hs_wb)))
  have hbV : Below w.heap.size w wb := (by repeat (first | assumption | exact Below.refl _ _ | (refine below_chain ?_ (by assumption) (by first | omega | (simp <;> omega) | simp)) | (refine Below.alloc ?_ (by first | omega | (simp <;> omega) | simp) _) | (apply below_drewN) | (apply below_drew) | (refine Below.setCell ?_ (by first | omega | (simp <;> omega) | simp) _)))
  obtain ⟨S, hS⟩ : ∃ S, S = w.heap.size := ⟨_, rfl⟩
  have k0 : wa.cell? ⟨S, 0, none⟩ = some (.int .i64 zx) ∧ wa.cell? ⟨S, 1, none⟩ = some (.int .i64 zy) := by rw [hS, hc_wa _ _ (by simp), hc_wa _ _ (by simp)]; simp [go_sem]
  have hsa : S < wa.heap.size := by omega
  have z0 : wb.cell? ⟨S, 0, none⟩ = some (.int .i64 zx) ∧ wb.cell? ⟨S, 1, none⟩ = some (.int .i64 zy) := ⟨(hb_wb.cell (p := ⟨S, 0, none⟩) hsa).trans k0.1, (hb_wb.cell (p := ⟨S, 1, none⟩) hsa).trans k0.2⟩
  have hsV : S < wb.heap.size := by omega
  rw [← hS]
  have HV := Lib.hid (And.intro hbV (And.intro z0 hS))
  clear hS hbV z0 k0 hc_wa hf_wa hb_wa hb_wb c0 c1
  go_loopw [6] (fun i wr => ∃ k : Nat, k ≤ L.length ∧ i = .int .i64 k ∧ Hid (∀ j, j < k → onP (cy L j) (cy L (j + 1)) (zx, zy) = false) ∧ Below wb.heap.size wb wr) (fun i _ => L.length - (intOf i).toNat)
  case atStart => exact ⟨0, Nat.zero_le _, rfl, Lib.hid (fun j hj => by omega), Below.refl _ _⟩
  case round =>
    obtain ⟨k, hk, rfl, hon, hb⟩ := hrel
    have hbs := hb.size
    have hv := okP_at H.out.2.1
    have hz0 := (hb.cell (p := ⟨S, 0, none⟩) hsV).trans HV.out.2.1.1
    have hz1 := (hb.cell (p := ⟨S, 1, none⟩) hsV).trans HV.out.2.1.2
    have hSr : S < wr.heap.size := by omega
    by_cases hlt : k < L.length
    · have hlt' : (k : Int) < (L.length : Int) := by omega
      obtain ⟨B, o, m, rfl, hB, ⟨a0, a1⟩, hml, hrem, ⟨b0, b1⟩, hm⟩ := ((H.out.1.below HV.out.1).below hb).two hlt
      have hi1 : 0 ≤ ((k : Int) + 1) % (L.length : Int) ∧ ((k : Int) + 1) % (L.length : Int) < (L.length : Int) := ⟨Int.emod_nonneg _ (by omega), Int.emod_lt_of_pos _ (by omega)⟩
      subst hm
      obtain ⟨b, hbb⟩ : ∃ b, onP (cy L k) (cy L (k + 1)) (zx, zy) = b := ⟨_, rfl⟩
      have cc := fun w => Lib.hid (sOnP (hv k) (hv (k + 1)) H.out.2.2 hbb w)
      dsimp only at cc
      have HK := Lib.hid (And.intro hbb (And.intro hon hb))
      clear hv hbb hon hb
      cases b
      · go_wp2_with fail
        (refine wp_region_grows (by kernel_rfl) (by kernel_rfl) ?_; intro W_wg hWc_wg hWs_wg hWe_wg; (repeat (go_big_quiet_step ((go_at_call 47; with_reducible exact Ext.call ((cc _).out))))); with_reducible refine wpQuiet_nil ?_; clear hWe_wg hWs_wg hWc_wg W_wg; intro wg hb_wg; obtain ⟨hc_wg, hf_wg⟩ := bcell hb_wg; (try simp only [World.size_drew, World.cell?_drew, World.frozen?_drew, World.heap_drewN, World.cell?_drewN, World.frozen?_drewN] at hc_wg hf_wg); have hs_wg := hb_wg.size; (try simp at hs_wg))
        go_wp2_with fail
        go_roundw
        case rel => exact ⟨k + 1, by omega, by go_num, Lib.hid (fun j hj => by
          by_cases e : j = k
          · subst e; exact HK.out.1
          · exact HK.out.2.1.out j (by omega)), HK.out.2.2.trans (hb_wg.mono hbs)⟩
        case measure => simp [intOf]; omega
      · go_wp2_with fail
        (refine wp_region_grows (by kernel_rfl) (by kernel_rfl) ?_; intro W_wg hWc_wg hWs_wg hWe_wg; (repeat (go_big_quiet_step ((go_at_call 47; with_reducible exact Ext.call ((cc _).out))))); with_reducible refine wpQuiet_nil ?_; clear hWe_wg hWs_wg hWc_wg W_wg; intro wg hb_wg; obtain ⟨hc_wg, hf_wg⟩ := bcell hb_wg; (try simp only [World.size_drew, World.cell?_drew, World.frozen?_drew, World.heap_drewN, World.cell?_drewN, World.frozen?_drewN] at hc_wg hf_wg); have hs_wg := hb_wg.size; (try simp at hs_wg))
        go_wp2_with fail
        have hpl : placeL L (zx, zy) = 0 := by
          have : onL L (zx, zy) = true := anyF_of hlt HK.out.1
          unfold placeL; rw [this]; rfl
        exact bodyPost_ret (v := .tuple #[.int .i64 0, .bool true]) (by simp [results, Try.results30, go_sem]) rfl ⟨by rw [hpl], HV.out.1.trans ((HK.out.2.2.trans (hb_wg.mono hbs)).mono HV.out.1.size)⟩
    · have e : k = L.length := by omega
      subst e
      have hlt' : ¬ (L.length : Int) < (L.length : Int) := by omega
      have hno : onL L (zx, zy) = false := anyF_false (fun i hi => hon.out i hi)
      obtain ⟨b, hbb⟩ : ∃ b, oddL L (zx, zy) = b := ⟨_, rfl⟩
      rw [hbb] at c2
      have hpl : placeL L (zx, zy) = if b then 1 else -1 := by unfold placeL; rw [hno, hbb]; rfl
      have hW := HV.out.1.trans (hb.mono HV.out.1.size)
      have HW := Lib.hid (And.intro hW hpl)
      clear hv hno hbb hpl hon hW hb
      cases b
      · go_wp2_with ((go_at_call 61; (with_reducible refine ((c2 _ ?_).out).mono ?_); (focus ((exact H.out.1.below HW.out.1); done)); rintro e we ⟨rfl, hb_we⟩; have hs_we := hb_we.size; (try simp at hs_we)))
        exact bodyPost_ret (v := .tuple #[.int .i64 (-1), .bool true]) (by simp [results, Try.results30, go_sem]) rfl ⟨by rw [HW.out.2]; rfl, HW.out.1.trans (hb_we.mono HW.out.1.size)⟩
      · go_wp2_with ((go_at_call 61; (with_reducible refine ((c2 _ ?_).out).mono ?_); (focus ((exact H.out.1.below HW.out.1); done)); rintro e we ⟨rfl, hb_we⟩; have hs_we := hb_we.size; (try simp at hs_we)))
        exact bodyPost_ret (v := .tuple #[.int .i64 1, .bool true]) (by simp [results, Try.results30, go_sem]) rfl ⟨by rw [HW.out.2]; rfl, HW.out.1.trans (hb_we.mono HW.out.1.size)⟩
end
end Go.Proofs.Ythecapioagogbaa
