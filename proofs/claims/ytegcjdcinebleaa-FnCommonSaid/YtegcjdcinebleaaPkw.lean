/-
  The reference model: how many sides two parcels have in common; the corners at which a parcel does not go straight on.
-/
import Derived.Test.YtegcjdcinebleaaYsp
import Derived.Test.YtegcjdcinebleaaYbq
import Derived.Test.YtegcjdcinebleaaPkz
namespace Go.Proofs.Ytegcjdcinebleaa
open Go.RowKit Poly
set_option linter.unusedVariables false

theorem comRow_succ (L M : List P2) (i k : Nat) : comRow L M i (k + 1) = comRow L M i k + b2i (oppP L M i k) := rfl
section
variable {p q : Option Addr} {c d : Nat} {L M : List P2} {w : World}
set_option maxHeartbeats 8000000 in
theorem sParcelCommon_yes (h : Ints w p (fl L)) (h' : Ints w q (fl M)) (hv : parV L = true) (hv' : parV M = true) :
    Calls Try.prog 53 #[.slice p L.length c, .slice q M.length d] w fun e w' => e = .returned (.int .i64 (commonL L M)) ∧ Below w.heap.size w w' := by
  have H := Lib.hid (And.intro h h')
  obtain ⟨l3, l12⟩ := okP_len (parV_ok hv)
  obtain ⟨m3, m12⟩ := okP_len (parV_ok hv')
  have c1 := fun w h => Lib.hid (sParcelValid_is (p := p) (c := c) (L := L) (w := w) h (by omega) hv)
  have c2 := fun w h => Lib.hid (sParcelValid_is (p := q) (c := d) (L := M) (w := w) h (by omega) hv')
  clear h h' hv hv'
  go_enter Try.func53, Try.ntmps53
  go_wp2_with (first | ((go_at_call 35; (with_reducible refine ((c1 _ ?_).out).mono ?_); (focus ((exact H.out.1.below (by repeat (first | assumption | exact Below.refl _ _ | (refine below_chain ?_ (by assumption) (by first | omega | (simp <;> omega) | simp)) | (refine Below.alloc ?_ (by first | omega | (simp <;> omega) | simp) _) | (apply below_drewN) | (apply below_drew) | (refine Below.setCell ?_ (by first | omega | (simp <;> omega) | simp) _)))); done)); rintro e wa ⟨rfl, hb_wa⟩; have hs_wa := hb_wa.size; (try simp at hs_wa))) | ((go_at_call 35; (with_reducible refine ((c2 _ ?_).out).mono ?_); (focus ((exact H.out.2.below (by repeat (first | assumption | exact Below.refl _ _ | (refine below_chain ?_ (by assumption) (by first | omega | (simp <;> omega) | simp)) | (refine Below.alloc ?_ (by first | omega | (simp <;> omega) | simp) _) | (apply below_drewN) | (apply below_drew) | (refine Below.setCell ?_ (by first | omega | (simp <;> omega) | simp) _)))); done)); rintro e wb ⟨rfl, hb_wb⟩; have hs_wb := hb_wb.size; (try simp at hs_wb))))
  have HA := Lib.hid (show Below w.heap.size w wb from (by repeat (first | assumption | exact Below.refl _ _ | (refine below_chain ?_ (by assumption) (by first | omega | (simp <;> omega) | simp)) | (refine Below.alloc ?_ (by first | omega | (simp <;> omega) | simp) _) | (apply below_drewN) | (apply below_drew) | (refine Below.setCell ?_ (by first | omega | (simp <;> omega) | simp) _))))
  clear c1 c2 hb_wa hb_wb hs_wa hs_wb
  go_loopw [5, 6] (fun s i wr => ∃ j : Nat, j ≤ L.length ∧ i = .int .i64 j ∧ s = .int .i64 (sumF (fun i => comRow L M i M.length) j) ∧ Below w.heap.size w wr) (fun _ i _ => L.length - (intOf i).toNat)
  case atStart => exact ⟨0, Nat.zero_le _, rfl, rfl, HA.out⟩
  case round =>
    clear HA
    obtain ⟨j, hj, rfl, rfl, hb⟩ := hrel
    rename World => wo
    have HB := Lib.hid hb
    have hbo := hb.size
    have hsl := sum_le (f := fun i => comRow L M i M.length) (m := 12) (n := j) (fun i _ => by have := row_bd L M i M.length; omega)
    obtain ⟨s, hs⟩ : ∃ s, sumF (fun i => comRow L M i M.length) j = s := ⟨_, rfl⟩
    have hsn : sumF (fun i => comRow L M i M.length) (j + 1) = s + comRow L M j M.length := by rw [← hs]; rfl
    rw [hs] at hsl
    rw [hs]
    have HSN := Lib.hid (And.intro hsn hs)
    clear hb hsn hs
    by_cases hlt : j < L.length
    · have hlt' : (j : Int) < (L.length : Int) := by omega
      go_wp2_with fail
      go_loopw [5, 7] (fun s' k wr => ∃ q : Nat, q ≤ M.length ∧ k = .int .i64 q ∧ s' = .int .i64 (s + comRow L M j q) ∧ Below wo.heap.size wo wr) (fun _ k _ => M.length - (intOf k).toNat)
      case atStart => exact ⟨0, Nat.zero_le _, rfl, by show Value.int _ _ = Value.int _ _; congr 1; show s = s + 0; omega, Below.refl _ _⟩
      case round =>
        obtain ⟨q, hq, rfl, rfl, hb⟩ := hrel
        rename World => wi
        have hbs := hb.size
        have hrb := row_bd L M j q
        have hrs := comRow_succ L M j q
        have hbb := b2i_bd (oppP L M j q)
        by_cases hql : q < M.length
        · have hql' : (q : Int) < (M.length : Int) := by omega
          obtain ⟨B, o, m, rfl, hB, ⟨x0, x1⟩, hml, hrem, ⟨y0, y1⟩, hm⟩ := ((H.out.1.below HB.out).below hb).two hlt
          obtain ⟨B', o', m', rfl, hB', ⟨z0, z1⟩, hml2, hrem2, ⟨t0, t1⟩, hm2⟩ := ((H.out.2.below HB.out).below hb).two hql
          have ho := oppP_four L M j q
          generalize comRow L M j q = t at *
          generalize oppP L M j q = bb at *
          subst hm
          subst hm2
          have hi1 : 0 ≤ ((j : Int) + 1) % (L.length : Int) ∧ ((j : Int) + 1) % (L.length : Int) < (L.length : Int) := ⟨Int.emod_nonneg _ (by omega), Int.emod_lt_of_pos _ (by omega)⟩
          have hi2 : 0 ≤ ((q : Int) + 1) % (M.length : Int) ∧ ((q : Int) + 1) % (M.length : Int) < (M.length : Int) := ⟨Int.emod_nonneg _ (by omega), Int.emod_lt_of_pos _ (by omega)⟩
          have HX := Lib.hid (And.intro ho (And.intro hrs hb))
          generalize (cy L j).1 = a1 at *
          generalize (cy L j).2 = a2 at *
          generalize (cy L (j + 1)).1 = b1 at *
          generalize (cy L (j + 1)).2 = b2 at *
          generalize (cy M q).1 = e1 at *
          generalize (cy M q).2 = e2 at *
          generalize (cy M (q + 1)).1 = d1 at *
          generalize (cy M (q + 1)).2 = d2 at *
          have cases4 : (a1 = d1 ∧ a2 = d2 ∧ b1 = e1 ∧ b2 = e2) ∨ (a1 = d1 ∧ a2 = d2 ∧ b1 = e1 ∧ ¬ b2 = e2) ∨ (a1 = d1 ∧ a2 = d2 ∧ ¬ b1 = e1) ∨ (a1 = d1 ∧ ¬ a2 = d2) ∨ ¬ a1 = d1 := by omega
          clear ho hrs hb hrem hrem2
          rcases cases4 with ⟨h1, h2, h3, h4⟩ | ⟨h1, h2, h3, h4⟩ | ⟨h1, h2, h3⟩ | ⟨h1, h2⟩ | h1
          · obtain rfl : bb = true := by rw [HX.out.1]; simp [h1, h2, h3, h4]
            clear hbb
            go_upto_region 10 with fail
            go_quiet (fail)
            go_wp2_with fail
            go_roundw
            case rel => exact ⟨q + 1, by omega, by go_num, by rw [HX.out.2.1]; show Value.int _ _ = Value.int _ _; congr 1; simp [b2i]; omega, (show Below wo.heap.size wo wi from HX.out.2.2).trans (by repeat (first | assumption | exact Below.refl _ _ | (refine below_chain ?_ (by assumption) (by first | omega | (simp <;> omega) | simp)) | (refine Below.alloc ?_ (by first | omega | (simp <;> omega) | simp) _) | (apply below_drewN) | (apply below_drew) | (refine Below.setCell ?_ (by first | omega | (simp <;> omega) | simp) _)))⟩
            case measure => simp [intOf]; omega
          · obtain rfl : bb = false := by rw [HX.out.1]; simp [h1, h2, h3, h4]
            clear hbb
            go_upto_region 10 with fail
            go_quiet (fail)
            go_wp2_with fail
            go_roundw
            case rel => exact ⟨q + 1, by omega, by go_num, by rw [HX.out.2.1]; show Value.int _ _ = Value.int _ _; congr 1; simp [b2i], (show Below wo.heap.size wo wi from HX.out.2.2).trans (by repeat (first | assumption | exact Below.refl _ _ | (refine below_chain ?_ (by assumption) (by first | omega | (simp <;> omega) | simp)) | (refine Below.alloc ?_ (by first | omega | (simp <;> omega) | simp) _) | (apply below_drewN) | (apply below_drew) | (refine Below.setCell ?_ (by first | omega | (simp <;> omega) | simp) _)))⟩
            case measure => simp [intOf]; omega
          · obtain rfl : bb = false := by rw [HX.out.1]; simp [h1, h2, h3]
            clear hbb
            go_upto_region 10 with fail
            go_quiet (fail)
            go_wp2_with fail
            go_roundw
            case rel => exact ⟨q + 1, by omega, by go_num, by rw [HX.out.2.1]; show Value.int _ _ = Value.int _ _; congr 1; simp [b2i], (show Below wo.heap.size wo wi from HX.out.2.2).trans (by repeat (first | assumption | exact Below.refl _ _ | (refine below_chain ?_ (by assumption) (by first | omega | (simp <;> omega) | simp)) | (refine Below.alloc ?_ (by first | omega | (simp <;> omega) | simp) _) | (apply below_drewN) | (apply below_drew) | (refine Below.setCell ?_ (by first | omega | (simp <;> omega) | simp) _)))⟩
            case measure => simp [intOf]; omega
          · obtain rfl : bb = false := by rw [HX.out.1]; simp [h1, h2]
            clear hbb
            go_upto_region 10 with fail
            go_quiet (fail)
            go_wp2_with fail
            go_roundw
            case rel => exact ⟨q + 1, by omega, by go_num, by rw [HX.out.2.1]; show Value.int _ _ = Value.int _ _; congr 1; simp [b2i], (show Below wo.heap.size wo wi from HX.out.2.2).trans (by repeat (first | assumption | exact Below.refl _ _ | (refine below_chain ?_ (by assumption) (by first | omega | (simp <;> omega) | simp)) | (refine Below.alloc ?_ (by first | omega | (simp <;> omega) | simp) _) | (apply below_drewN) | (apply below_drew) | (refine Below.setCell ?_ (by first | omega | (simp <;> omega) | simp) _)))⟩
            case measure => simp [intOf]; omega
          · obtain rfl : bb = false := by rw [HX.out.1]; simp [h1]
            clear hbb
            go_upto_region 10 with fail
            go_quiet (fail)
            go_wp2_with fail
            go_roundw
            case rel => exact ⟨q + 1, by omega, by go_num, by rw [HX.out.2.1]; show Value.int _ _ = Value.int _ _; congr 1; simp [b2i], (show Below wo.heap.size wo wi from HX.out.2.2).trans (by repeat (first | assumption | exact Below.refl _ _ | (refine below_chain ?_ (by assumption) (by first | omega | (simp <;> omega) | simp)) | (refine Below.alloc ?_ (by first | omega | (simp <;> omega) | simp) _) | (apply below_drewN) | (apply below_drew) | (refine Below.setCell ?_ (by first | omega | (simp <;> omega) | simp) _)))⟩
            case measure => simp [intOf]; omega
        · have e : q = M.length := by omega
          subst e
          have hql' : ¬ (M.length : Int) < (M.length : Int) := by omega
          have HX := Lib.hid hb
          clear hb
          go_wp2_with fail
          go_roundw
          case rel => exact ⟨j + 1, by omega, by go_num, by rw [HSN.out.1], HB.out.trans (HX.out.mono hbo)⟩
          case measure => simp [intOf]; omega
    · have e : j = L.length := by omega
      subst e
      have hlt' : ¬ (L.length : Int) < (L.length : Int) := by omega
      go_wp2_with fail
      go_ret
      exact ⟨by rw [← HSN.out.2]; rfl, HB.out⟩
end
end Go.Proofs.Ytegcjdcinebleaa
