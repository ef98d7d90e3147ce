/-
  What the reference model's NetFits answers.
-/
import Derived.Test.YtfkpjphafdknaaaNe
namespace Go.Proofs.Ytfkpjphafdknaaa
open Go.RowKit
set_option linter.unusedVariables false

set_option maxHeartbeats 2000000 in
theorem sFits (n : Int) (p q : Option Addr) (c d : Nat) (rs : List Rn) (hs : List Int) (b : Bool) (w : World) (h : Runs w p rs) (hh : Ints w q hs) (hc : rs.length ≤ 4000000000000000000) (hd : hs.length ≤ 4000000000000000000) (hb : nFits n rs hs = b) :
    Calls Try.prog 30 #[.int .i64 n, .slice p rs.length c, .slice q hs.length d] w fun e w' => e = .returned (.bool b) ∧ Below w.heap.size w w' := by
  have H := Lib.hid h
  have HI := Lib.hid hh
  have HB := Lib.hid hb
  clear h hh
  obtain ⟨b1, h1⟩ : ∃ v, nOk n rs = v := ⟨_, rfl⟩
  have c1 := fun w h => Lib.hid (sValid n p c rs b1 w h hc h1)
  have H1 := Lib.hid h1
  clear h1 hb
  cases b1
  · have e : b = false := by rw [← HB.out]; exact nFits_noN H1.out
    subst e
    go_enter Try.func30, Try.ntmps30
    go_wp2_with ((go_at_call 32; (with_reducible refine ((c1 _ ?_).out).mono ?_); (focus ((exact H.out); done)); rintro e wa ⟨rfl, hb_wa⟩; have hs_wa := hb_wa.size; (try simp at hs_wa)))
    go_ret
    exact ⟨rfl, (by repeat (first | assumption | exact Below.refl _ _ | (refine below_chain ?_ (by assumption) (by first | omega | (simp <;> omega) | simp)) | (refine Below.alloc ?_ (by first | omega | (simp <;> omega) | simp) _) | (apply below_drewN) | (apply below_drew) | (refine Below.setCell ?_ (by first | omega | (simp <;> omega) | simp) _)))⟩
  · by_cases hn : (hs.length : Int) = n
    · subst hn
      go_enter Try.func30, Try.ntmps30
      go_wp2_with ((go_at_call 32; (with_reducible refine ((c1 _ ?_).out).mono ?_); (focus ((exact H.out); done)); rintro e wa ⟨rfl, hb_wa⟩; have hs_wa := hb_wa.size; (try simp at hs_wa)))
      clear c1
      have hB : Below w.heap.size w wa := (by repeat (first | assumption | exact Below.refl _ _ | (refine below_chain ?_ (by assumption) (by first | omega | (simp <;> omega) | simp)) | (refine Below.alloc ?_ (by first | omega | (simp <;> omega) | simp) _) | (apply below_drewN) | (apply below_drew) | (refine Below.setCell ?_ (by first | omega | (simp <;> omega) | simp) _)))
      go_loopw [7] (fun i wr => ∃ k : Nat, k ≤ hs.length ∧ i = .int .i64 k ∧ htTo hs k ∧ Below w.heap.size w wr) (fun i _ => hs.length - (intOf i).toNat)
      case atStart => exact ⟨0, Nat.zero_le _, rfl, fun _ _ h => by omega, hB⟩
      case round =>
        clear hb_wa hs_wa hB
        obtain ⟨k, hk, rfl, hok, hbr⟩ := hrel
        have hbs := hbr.size
        have HO := Lib.hid hok
        clear hok
        by_cases hlt : k < hs.length
        · obtain ⟨B, o, z, rfl, hr, hB1, e0⟩ := (HI.out.below hbr).at hlt
          obtain ⟨v, hv⟩ : ∃ v, hOk z = v := ⟨_, rfl⟩
          have HR := Lib.hid hr
          have HV := Lib.hid hv
          have cr := fun w => Lib.hid (nIn z (-1000000) 1000000 v w hv)
          clear hr hv
          cases v
          · go_wp2_with ((go_at_call 55; (with_reducible refine ((cr _).out).mono ?_); rintro e w' ⟨rfl, rfl⟩))
            go_ret
            exact ⟨ret_bool ((nFits_noH (htOk_no HR.out HV.out)).symm.trans HB.out), (by repeat (first | assumption | exact Below.refl _ _ | (refine below_chain ?_ (by assumption) (by first | omega | (simp <;> omega) | simp)) | (refine Below.alloc ?_ (by first | omega | (simp <;> omega) | simp) _) | (apply below_drewN) | (apply below_drew) | (refine Below.setCell ?_ (by first | omega | (simp <;> omega) | simp) _)))⟩
          · go_wp2_with ((go_at_call 55; (with_reducible refine ((cr _).out).mono ?_); rintro e w' ⟨rfl, rfl⟩))
            go_roundw
            case rel => exact ⟨k + 1, by omega, by go_num, htTo_succ HO.out HR.out HV.out, (by repeat (first | assumption | exact Below.refl _ _ | (refine below_chain ?_ (by assumption) (by first | omega | (simp <;> omega) | simp)) | (refine Below.alloc ?_ (by first | omega | (simp <;> omega) | simp) _) | (apply below_drewN) | (apply below_drew) | (refine Below.setCell ?_ (by first | omega | (simp <;> omega) | simp) _)))⟩
            case measure => simp [intOf]; omega
        · have e : k = hs.length := by omega
          subst e
          have H2 : Hid (htOk hs.length hs = true) := Lib.hid (htOk_of rfl HO.out)
          go_wp2_with fail
          clear hlt
          go_loopw [8] (fun i wr => ∃ k : Nat, k ≤ rs.length ∧ i = .int .i64 k ∧ fitTo hs rs k ∧ Below w.heap.size w wr) (fun i _ => rs.length - (intOf i).toNat)
          case atStart => exact ⟨0, Nat.zero_le _, rfl, fun _ _ h => by omega, hbr⟩
          case round =>
            clear hbr hbs
            rename World => wq
            obtain ⟨k, hk, rfl, hok, hbr⟩ := hrel
            have hbs := hbr.size
            have HO := Lib.hid hok
            clear hok
            by_cases hlt : k < rs.length
            · obtain ⟨B, o, r, rfl, hr, hB1, e0, e1, e2, e3⟩ := (H.out.below hbr).at hlt
              obtain ⟨a1, a2, a3, a4, -, a5, a6, -, -⟩ := rOk_true ((nOk_true H1.out).2.2.2 _ _ hr)
              obtain ⟨kf, zf, hxf, hlf, hgf, b1, b2, hvf⟩ := node_nat H2.out a1 a2
              obtain ⟨kt, zt, hxt, hlt2, hgt, b3, b4, hvt⟩ := node_nat H2.out a3 a4
              obtain ⟨B', o', z', rfl, hr', hB2, e4⟩ := (HI.out.below hbr).at hlf
              obtain ⟨B'', o'', z'', q1, hr'', -, e5⟩ := (HI.out.below hbr).at hlt2
              simp at q1
              obtain ⟨rfl, rfl⟩ := q1
              obtain rfl : zf = z' := by rw [hgf] at hr'; cases hr'; rfl
              obtain rfl : zt = z'' := by rw [hgt] at hr''; cases hr''; rfl
              rw [hxf] at e0
              rw [hxt] at e1
              have HV : Hid (fitR hs r = decide (zt - zf = r.s)) := Lib.hid (by unfold fitR; rw [hvf, hvt])
              have HR := Lib.hid hr
              clear hr hr' hr'' hgf hgt hxf hxt hvf hvt a1 a2 a3 a4
              by_cases hd : zt - zf = r.s
              · have hd' : (zt - zf == r.s) = true := by simpa using hd
                have HV2 : Hid (fitR hs r = true) := Lib.hid (by rw [HV.out]; simpa using hd)
                clear hd HV
                go_wp2_with fail
                (refine wp_region_grows (by kernel_rfl) (by kernel_rfl) ?_; intro W_wg hWc_wg hWs_wg hWe_wg; (repeat (go_big_quiet_step (fail))); with_reducible refine wpQuiet_nil ?_; clear hWe_wg hWs_wg hWc_wg W_wg; intro wg hb_wg; obtain ⟨hc_wg, hf_wg⟩ := bcell hb_wg; (try simp only [World.size_drew, World.cell?_drew, World.frozen?_drew, World.heap_drewN, World.cell?_drewN, World.frozen?_drewN] at hc_wg hf_wg); have hs_wg := hb_wg.size; (try simp at hs_wg))
                go_wp2_with fail
                go_roundw
                case rel => exact ⟨k + 1, by omega, by go_num, fitTo_succ HO.out HR.out HV2.out, (by repeat (first | assumption | exact Below.refl _ _ | (refine below_chain ?_ (by assumption) (by first | omega | (simp <;> omega) | simp)) | (refine Below.alloc ?_ (by first | omega | (simp <;> omega) | simp) _) | (apply below_drewN) | (apply below_drew) | (refine Below.setCell ?_ (by first | omega | (simp <;> omega) | simp) _)))⟩
                case measure => simp [intOf]; omega
              · have hd' : (zt - zf == r.s) = false := by simpa using hd
                have HV2 : Hid (fitR hs r = false) := Lib.hid (by rw [HV.out]; simpa using hd)
                clear hd HV
                go_wp2_with fail
                (refine wp_region_grows (by kernel_rfl) (by kernel_rfl) ?_; intro W_wg hWc_wg hWs_wg hWe_wg; (repeat (go_big_quiet_step (fail))); with_reducible refine wpQuiet_nil ?_; clear hWe_wg hWs_wg hWc_wg W_wg; intro wg hb_wg; obtain ⟨hc_wg, hf_wg⟩ := bcell hb_wg; (try simp only [World.size_drew, World.cell?_drew, World.frozen?_drew, World.heap_drewN, World.cell?_drewN, World.frozen?_drewN] at hc_wg hf_wg); have hs_wg := hb_wg.size; (try simp at hs_wg))
                go_wp2_with fail
                go_ret
                exact ⟨ret_bool ((nFits_no HR.out HV2.out).symm.trans HB.out), (by repeat (first | assumption | exact Below.refl _ _ | (refine below_chain ?_ (by assumption) (by first | omega | (simp <;> omega) | simp)) | (refine Below.alloc ?_ (by first | omega | (simp <;> omega) | simp) _) | (apply below_drewN) | (apply below_drew) | (refine Below.setCell ?_ (by first | omega | (simp <;> omega) | simp) _)))⟩
            · have e : k = rs.length := by omega
              subst e
              go_wp2_with fail
              go_ret
              exact ⟨ret_bool ((nFits_of H1.out H2.out HO.out).symm.trans HB.out), (by repeat (first | assumption | exact Below.refl _ _ | (refine below_chain ?_ (by assumption) (by first | omega | (simp <;> omega) | simp)) | (refine Below.alloc ?_ (by first | omega | (simp <;> omega) | simp) _) | (apply below_drewN) | (apply below_drew) | (refine Below.setCell ?_ (by first | omega | (simp <;> omega) | simp) _)))⟩
    · have h1' : ((hs.length : Int) == n) = false := by simpa using hn
      have e : b = false := by rw [← HB.out]; exact nFits_noH (by simp [htOk, hn])
      subst e
      clear hn
      go_enter Try.func30, Try.ntmps30
      go_wp2_with ((go_at_call 32; (with_reducible refine ((c1 _ ?_).out).mono ?_); (focus ((exact H.out); done)); rintro e wa ⟨rfl, hb_wa⟩; have hs_wa := hb_wa.size; (try simp at hs_wa)))
      go_ret
      exact ⟨rfl, (by repeat (first | assumption | exact Below.refl _ _ | (refine below_chain ?_ (by assumption) (by first | omega | (simp <;> omega) | simp)) | (refine Below.alloc ?_ (by first | omega | (simp <;> omega) | simp) _) | (apply below_drewN) | (apply below_drew) | (refine Below.setCell ?_ (by first | omega | (simp <;> omega) | simp) _)))⟩
end Go.Proofs.Ytfkpjphafdknaaa
