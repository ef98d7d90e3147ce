/-
  What NetFits answers, in both programs.
-/
import Derived.Test.YtjfbkafekkbcdaaNc
import Derived.Deep.Draws
namespace Go.Proofs.Ytjfbkafekkbcdaa
open Go.RowKit
set_option linter.unusedVariables false

def hOk (z : Int) : Bool := decide (-1000000 ≤ z ∧ z ≤ 1000000)
def htOk (n : Int) (hs : List Int) : Bool := decide ((hs.length : Int) = n) && hs.all hOk
/-- the height at a node -/
def htAt (hs : List Int) (i : Int) : Int := (hs[i.toNat]?).getD 0
def fitR (hs : List Int) (r : Rn) : Bool := decide (htAt hs r.t - htAt hs r.f = r.s)
def nFits (n : Int) (rs : List Rn) (hs : List Int) : Bool := nOk n rs && htOk n hs && rs.all (fitR hs)

theorem htOk_true {n : Int} {hs : List Int} (h : htOk n hs = true) : (hs.length : Int) = n ∧ ∀ (i : Nat) (z : Int), hs[i]? = some z → -1000000 ≤ z ∧ z ≤ 1000000 := by
  simp [htOk, hOk] at h
  exact ⟨h.1, fun i z hi => h.2 z (List.mem_of_getElem? hi)⟩
theorem htOk_of {n : Int} {hs : List Int} (h1 : (hs.length : Int) = n) (h2 : ∀ (i : Nat) (z : Int), i < hs.length → hs[i]? = some z → hOk z = true) : htOk n hs = true := by
  simp only [htOk, h1, decide_true, Bool.true_and, List.all_eq_true]
  intro z hz
  obtain ⟨i, hi⟩ := List.getElem?_of_mem hz
  exact h2 i z (List.getElem?_eq_some_iff.1 hi).1 hi
theorem htOk_no {n : Int} {hs : List Int} {i : Nat} {z : Int} (hi : hs[i]? = some z) (h : hOk z = false) : htOk n hs = false := by
  rw [Bool.eq_false_iff]; intro hn
  simp only [htOk, Bool.and_eq_true, List.all_eq_true] at hn
  rw [hn.2 z (List.mem_of_getElem? hi)] at h; cases h
def htTo (hs : List Int) (k : Nat) : Prop := ∀ (i : Nat) (z : Int), i < k → hs[i]? = some z → hOk z = true
theorem htTo_succ {hs : List Int} {k : Nat} {z : Int} (h : htTo hs k) (hz : hs[k]? = some z) (hk : hOk z = true) : htTo hs (k + 1) := fun i z' hi hz' => by
  by_cases e : i = k
  · subst e; rw [hz] at hz'; cases hz'; exact hk
  · exact h i z' (by omega) hz'
def fitTo (hs : List Int) (rs : List Rn) (k : Nat) : Prop := ∀ (i : Nat) (r : Rn), i < k → rs[i]? = some r → fitR hs r = true
theorem fitTo_succ {hs : List Int} {rs : List Rn} {k : Nat} {r : Rn} (h : fitTo hs rs k) (hr : rs[k]? = some r) (hk : fitR hs r = true) : fitTo hs rs (k + 1) := fun i r' hi hr' => by
  by_cases e : i = k
  · subst e; rw [hr] at hr'; cases hr'; exact hk
  · exact h i r' (by omega) hr'
theorem nFits_of {n : Int} {rs : List Rn} {hs : List Int} (h1 : nOk n rs = true) (h2 : htOk n hs = true) (h3 : fitTo hs rs rs.length) : nFits n rs hs = true := by
  simp only [nFits, h1, h2, Bool.true_and, List.all_eq_true]
  intro r hr
  obtain ⟨i, hi⟩ := List.getElem?_of_mem hr
  exact h3 i r (List.getElem?_eq_some_iff.1 hi).1 hi
theorem nFits_true {n : Int} {rs : List Rn} {hs : List Int} (h : nFits n rs hs = true) : nOk n rs = true ∧ htOk n hs = true ∧ ∀ (i : Nat) (r : Rn), rs[i]? = some r → htAt hs r.t - htAt hs r.f = r.s := by
  simp only [nFits, Bool.and_eq_true, List.all_eq_true] at h
  exact ⟨h.1.1, h.1.2, fun i r hi => by simpa [fitR] using h.2 r (List.mem_of_getElem? hi)⟩
theorem nFits_no {n : Int} {rs : List Rn} {hs : List Int} {i : Nat} {r : Rn} (hi : rs[i]? = some r) (h : fitR hs r = false) : nFits n rs hs = false := by
  rw [Bool.eq_false_iff]; intro hn
  have := (nFits_true hn).2.2 i r hi
  simp [fitR] at h; omega
theorem nFits_noH {n : Int} {rs : List Rn} {hs : List Int} (h : htOk n hs = false) : nFits n rs hs = false := by simp [nFits, h]
theorem nFits_noN {n : Int} {rs : List Rn} {hs : List Int} (h : nOk n rs = false) : nFits n rs hs = false := by simp [nFits, h]

set_option maxHeartbeats 1000000 in
theorem iHeights (n : Int) (p : Option Addr) (c : Nat) (hs : List Int) (b : Bool) (w : World) (h : Ints w p hs) (hc : hs.length ≤ 4000000000000000000) (hb : htOk n hs = b) :
    Calls Try.prog 63 #[.int .i64 n, .slice p hs.length c] w fun e w' => e = .returned (.bool b) ∧ w = w' := by
  have H := Lib.hid h
  have HB := Lib.hid hb
  clear h
  by_cases h1 : (hs.length : Int) = n
  · subst h1
    clear hb
    go_enter Try.func63, Try.ntmps63
    go_wp2_with fail
    go_loopw [13] (fun i wr => ∃ k : Nat, k ≤ hs.length ∧ i = .int .i64 k ∧ htTo hs k ∧ w = wr) (fun i _ => hs.length - (intOf i).toNat)
    case atStart => exact ⟨0, Nat.zero_le _, rfl, fun _ _ h => by omega, rfl⟩
    case round =>
      obtain ⟨k, hk, rfl, hok, rfl⟩ := hrel
      have HO := Lib.hid hok
      clear hok
      by_cases hlt : k < hs.length
      · obtain ⟨B, o, z, rfl, hr, hB, e0⟩ := H.out.at hlt
        obtain ⟨v, hv⟩ : ∃ v, hOk z = v := ⟨_, rfl⟩
        have HR := Lib.hid hr
        have HV := Lib.hid hv
        have cr := fun w => Lib.hid (nWithin z 1000000 v w (by decide) (by decide) hv)
        clear hr hv
        cases v
        · go_wp2_with ((go_at_call 41; (with_reducible refine ((cr _).out).mono ?_); rintro e w' ⟨rfl, rfl⟩))
          go_ret
          exact ⟨ret_bool ((htOk_no HR.out HV.out).symm.trans HB.out), by first | trivial | rfl⟩
        · go_wp2_with ((go_at_call 41; (with_reducible refine ((cr _).out).mono ?_); rintro e w' ⟨rfl, rfl⟩))
          go_roundw
          case rel => exact ⟨k + 1, by omega, by go_num, htTo_succ HO.out HR.out HV.out, by first | trivial | rfl⟩
          case measure => simp [intOf]; omega
      · have e : k = hs.length := by omega
        subst e
        go_wp2_with fail
        go_ret
        exact ⟨ret_bool ((htOk_of rfl HO.out).symm.trans HB.out), by first | trivial | rfl⟩
  · have h1' : ((hs.length : Int) == n) = false := by simpa using h1
    have e : b = false := by rw [← hb]; simp [htOk, h1]
    subst e
    clear h1 hb
    go_enter Try.func63, Try.ntmps63
    go_wp2_with fail
    go_ret
    exact ⟨rfl, by first | trivial | rfl⟩

theorem node_nat {n : Int} {hs : List Int} {x : Int} (hh : htOk n hs = true) (h0 : 0 ≤ x) (h1 : x < n) : ∃ (k : Nat) (z : Int), x = (k : Int) ∧ k < hs.length ∧ hs[k]? = some z ∧ -1000000 ≤ z ∧ z ≤ 1000000 ∧ htAt hs x = z := by
  obtain ⟨hl, hz⟩ := htOk_true hh
  have hlt : x.toNat < hs.length := by omega
  have e : hs[x.toNat]? = some hs[x.toNat] := List.getElem?_eq_getElem hlt
  obtain ⟨a, b⟩ := hz _ _ e
  exact ⟨x.toNat, _, by omega, hlt, e, a, b, by unfold htAt; rw [e]; rfl⟩

set_option maxHeartbeats 1000000 in
theorem iFits (n : Int) (p q : Option Addr) (c d : Nat) (rs : List Rn) (hs : List Int) (b : Bool) (w : World) (h : Runs w p rs) (hh : Ints w q hs) (hc : rs.length ≤ 4000000000000000000) (hd : hs.length ≤ 4000000000000000000) (hb : nFits n rs hs = b) :
    Calls Try.prog 32 #[.int .i64 n, .slice p rs.length c, .slice q hs.length d] w fun e w' => e = .returned (.bool b) ∧ Below w.heap.size w w' := by
  have H := Lib.hid h
  have HI := Lib.hid hh
  have HB := Lib.hid hb
  clear h hh
  obtain ⟨b1, h1⟩ : ∃ v, nOk n rs = v := ⟨_, rfl⟩
  obtain ⟨b2, h2⟩ : ∃ v, htOk n hs = v := ⟨_, rfl⟩
  have c1 := fun w h => Lib.hid (iValid n p c rs b1 w h hc h1)
  have c2 := fun w h => Lib.hid (iHeights n q d hs b2 w h hd h2)
  have H1 := Lib.hid h1
  have H2 := Lib.hid h2
  clear h1 h2 hb
  cases b1
  · have e : b = false := by rw [← HB.out]; exact nFits_noN H1.out
    subst e
    go_enter Try.func32, Try.ntmps32
    go_wp2_with ((go_at_call 28; (with_reducible refine ((c1 _ ?_).out).mono ?_); (focus ((exact H.out); done)); rintro e wa ⟨rfl, hb_wa⟩; have hs_wa := hb_wa.size; (try simp at hs_wa)))
    go_ret
    exact ⟨rfl, (by repeat (first | assumption | exact Below.refl _ _ | (refine below_chain ?_ (by assumption) (by first | omega | (simp <;> omega) | simp)) | (refine Below.alloc ?_ (by first | omega | (simp <;> omega) | simp) _) | (apply below_drewN) | (apply below_drew) | (refine Below.setCell ?_ (by first | omega | (simp <;> omega) | simp) _)))⟩
  · cases b2
    · have e : b = false := by rw [← HB.out]; exact nFits_noH H2.out
      subst e
      go_enter Try.func32, Try.ntmps32
      go_wp2_with (first | (go_at_call 28; (with_reducible refine ((c1 _ ?_).out).mono ?_); (focus ((exact H.out); done)); rintro e wa ⟨rfl, hb_wa⟩; have hs_wa := hb_wa.size; (try simp at hs_wa)) | (go_at_call 63; (with_reducible refine ((c2 _ ?_).out).mono ?_); (focus ((exact HI.out.below (by repeat (first | assumption | exact Below.refl _ _ | (refine below_chain ?_ (by assumption) (by first | omega | (simp <;> omega) | simp)) | (refine Below.alloc ?_ (by first | omega | (simp <;> omega) | simp) _) | (apply below_drewN) | (apply below_drew) | (refine Below.setCell ?_ (by first | omega | (simp <;> omega) | simp) _)))); done)); rintro e w' ⟨rfl, rfl⟩))
      go_ret
      exact ⟨rfl, (by repeat (first | assumption | exact Below.refl _ _ | (refine below_chain ?_ (by assumption) (by first | omega | (simp <;> omega) | simp)) | (refine Below.alloc ?_ (by first | omega | (simp <;> omega) | simp) _) | (apply below_drewN) | (apply below_drew) | (refine Below.setCell ?_ (by first | omega | (simp <;> omega) | simp) _)))⟩
    · go_enter Try.func32, Try.ntmps32
      go_wp2_with (first | (go_at_call 28; (with_reducible refine ((c1 _ ?_).out).mono ?_); (focus ((exact H.out); done)); rintro e wa ⟨rfl, hb_wa⟩; have hs_wa := hb_wa.size; (try simp at hs_wa)) | (go_at_call 63; (with_reducible refine ((c2 _ ?_).out).mono ?_); (focus ((exact HI.out.below (by repeat (first | assumption | exact Below.refl _ _ | (refine below_chain ?_ (by assumption) (by first | omega | (simp <;> omega) | simp)) | (refine Below.alloc ?_ (by first | omega | (simp <;> omega) | simp) _) | (apply below_drewN) | (apply below_drew) | (refine Below.setCell ?_ (by first | omega | (simp <;> omega) | simp) _)))); done)); rintro e w' ⟨rfl, rfl⟩))
      clear c1 c2
      have hB : Below w.heap.size w wa := (by repeat (first | assumption | exact Below.refl _ _ | (refine below_chain ?_ (by assumption) (by first | omega | (simp <;> omega) | simp)) | (refine Below.alloc ?_ (by first | omega | (simp <;> omega) | simp) _) | (apply below_drewN) | (apply below_drew) | (refine Below.setCell ?_ (by first | omega | (simp <;> omega) | simp) _)))
      go_loopw [21] (fun i wr => ∃ k : Nat, k ≤ rs.length ∧ i = .int .i64 k ∧ fitTo hs rs k ∧ Below w.heap.size w wr) (fun i _ => rs.length - (intOf i).toNat)
      case atStart => exact ⟨0, Nat.zero_le _, rfl, fun _ _ h => by omega, hB⟩
      case round =>
        clear hb_wa hs_wa
        obtain ⟨k, hk, rfl, hok, hbr⟩ := hrel
        have hbs := hbr.size
        have HO := Lib.hid hok
        clear hok
        by_cases hlt : k < rs.length
        · obtain ⟨B, o, r, rfl, hr, hB1, e0, e1, e2, e3⟩ := (H.out.below hbr).at hlt
          obtain ⟨a1, a2, a3, a4, -, a5, a6, -, -⟩ := rOk_true ((nOk_true H1.out).2.2.2 _ _ hr)
          obtain ⟨kf, zf, hxf, hlf, hgf, b1, b2, hvf⟩ := node_nat H2.out a1 a2
          obtain ⟨kt, zt, hxt, hlt2, hgt, b3, b4, hvt⟩ := node_nat H2.out a3 a4
          obtain ⟨B', o', z', rfl, hr', hB2, e4⟩ := (HI.out.below hbr).at hlf
          obtain ⟨B'', o'', z'', q1, hr'', -, e5⟩ := (HI.out.below hbr).at hlt2
          simp at q1
          obtain ⟨rfl, rfl⟩ := q1
          obtain rfl : zf = z' := by rw [hgf] at hr'; cases hr'; rfl
          obtain rfl : zt = z'' := by rw [hgt] at hr''; cases hr''; rfl
          rw [hxf] at e0
          rw [hxt] at e1
          have HV : Hid (fitR hs r = decide (zt - zf = r.s)) := Lib.hid (by unfold fitR; rw [hvf, hvt])
          have HR := Lib.hid hr
          clear hr hr' hr'' hgf hgt hxf hxt hvf hvt a1 a2 a3 a4
          by_cases hd : zt - zf = r.s
          · have hd' : (zt - zf == r.s) = true := by simpa using hd
            have HV2 : Hid (fitR hs r = true) := Lib.hid (by rw [HV.out]; simpa using hd)
            clear hd HV
            go_wp2_with fail
            (refine wp_region_grows (by kernel_rfl) (by kernel_rfl) ?_; intro W_wg hWc_wg hWs_wg hWe_wg; (repeat (go_big_quiet_step (fail))); with_reducible refine wpQuiet_nil ?_; clear hWe_wg hWs_wg hWc_wg W_wg; intro wg hb_wg; obtain ⟨hc_wg, hf_wg⟩ := bcell hb_wg; (try simp only [World.size_drew, World.cell?_drew, World.frozen?_drew, World.heap_drewN, World.cell?_drewN, World.frozen?_drewN] at hc_wg hf_wg); have hs_wg := hb_wg.size; (try simp at hs_wg))
            go_wp2_with fail
            go_roundw
            case rel => exact ⟨k + 1, by omega, by go_num, fitTo_succ HO.out HR.out HV2.out, (by repeat (first | assumption | exact Below.refl _ _ | (refine below_chain ?_ (by assumption) (by first | omega | (simp <;> omega) | simp)) | (refine Below.alloc ?_ (by first | omega | (simp <;> omega) | simp) _) | (apply below_drewN) | (apply below_drew) | (refine Below.setCell ?_ (by first | omega | (simp <;> omega) | simp) _)))⟩
            case measure => simp [intOf]; omega
          · have hd' : (zt - zf == r.s) = false := by simpa using hd
            have HV2 : Hid (fitR hs r = false) := Lib.hid (by rw [HV.out]; simpa using hd)
            clear hd HV
            go_wp2_with fail
            (refine wp_region_grows (by kernel_rfl) (by kernel_rfl) ?_; intro W_wg hWc_wg hWs_wg hWe_wg; (repeat (go_big_quiet_step (fail))); with_reducible refine wpQuiet_nil ?_; clear hWe_wg hWs_wg hWc_wg W_wg; intro wg hb_wg; obtain ⟨hc_wg, hf_wg⟩ := bcell hb_wg; (try simp only [World.size_drew, World.cell?_drew, World.frozen?_drew, World.heap_drewN, World.cell?_drewN, World.frozen?_drewN] at hc_wg hf_wg); have hs_wg := hb_wg.size; (try simp at hs_wg))
            go_wp2_with fail
            go_ret
            exact ⟨ret_bool ((nFits_no HR.out HV2.out).symm.trans HB.out), (by repeat (first | assumption | exact Below.refl _ _ | (refine below_chain ?_ (by assumption) (by first | omega | (simp <;> omega) | simp)) | (refine Below.alloc ?_ (by first | omega | (simp <;> omega) | simp) _) | (apply below_drewN) | (apply below_drew) | (refine Below.setCell ?_ (by first | omega | (simp <;> omega) | simp) _)))⟩
        · have e : k = rs.length := by omega
          subst e
          go_wp2_with fail
          go_ret
          exact ⟨ret_bool ((nFits_of H1.out H2.out HO.out).symm.trans HB.out), (by repeat (first | assumption | exact Below.refl _ _ | (refine below_chain ?_ (by assumption) (by first | omega | (simp <;> omega) | simp)) | (refine Below.alloc ?_ (by first | omega | (simp <;> omega) | simp) _) | (apply below_drewN) | (apply below_drew) | (refine Below.setCell ?_ (by first | omega | (simp <;> omega) | simp) _)))⟩
end Go.Proofs.Ytjfbkafekkbcdaa
