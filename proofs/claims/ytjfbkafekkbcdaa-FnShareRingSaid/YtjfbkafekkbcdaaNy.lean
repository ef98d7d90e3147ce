/-
  How the laws on draws compare lists; what labels have in common.
-/
import Derived.Test.YtjfbkafekkbcdaaNx
import Derived.Test.YtjfbkafekkbcdaaNl
namespace Go.Proofs.Ytjfbkafekkbcdaa
open Go.RowKit
set_option linter.unusedVariables false

set_option maxHeartbeats 1000000 in
theorem sameInts_is (p q : Option Addr) (c d : Nat) (zs : List Int) (w : World) (hp : Ints w p zs) (hq : Ints w q zs) (hl : zs.length ≤ 4000000000000000000) :
    Calls Try.prog 17 #[.slice p zs.length c, .slice q zs.length d] w fun e w' => e = .returned (.bool true) ∧ Below w.heap.size w w' := by
  have H := Lib.hid (And.intro hp hq)
  clear hp hq
  go_enter Try.func17, Try.ntmps17
  go_wp2_with fail
  go_loopw [5] (fun i wr => ∃ k : Nat, k ≤ zs.length ∧ i = .int .i64 k ∧ Below w.heap.size w wr) (fun i _ => zs.length - (intOf i).toNat)
  case atStart => exact ⟨0, Nat.zero_le _, rfl, Below.refl _ _⟩
  case round =>
    obtain ⟨k, hk, rfl, hbr⟩ := hrel
    have hbs := hbr.size
    by_cases hlt : k < zs.length
    · obtain ⟨B, o, r, rfl, hr, hB, e0⟩ := (H.out.1.below hbr).at hlt
      obtain ⟨B', o', r', rfl, hr', hB', e1⟩ := (H.out.2.below hbr).at hlt
      obtain rfl : r = r' := by rw [hr] at hr'; cases hr'; rfl
      clear hr hr'
      go_wp2_with fail
      (refine wp_region_grows (by kernel_rfl) (by kernel_rfl) ?_; intro W_wg hWc_wg hWs_wg hWe_wg; (repeat (go_big_quiet_step (fail))); with_reducible refine wpQuiet_nil ?_; clear hWe_wg hWs_wg hWc_wg W_wg; intro wg hb_wg; obtain ⟨hc_wg, hf_wg⟩ := bcell hb_wg; (try simp only [World.size_drew, World.cell?_drew, World.frozen?_drew, World.heap_drewN, World.cell?_drewN, World.frozen?_drewN] at hc_wg hf_wg); have hs_wg := hb_wg.size; (try simp at hs_wg))
      go_wp2_with fail
      go_roundw
      case rel => exact ⟨k + 1, by omega, by go_num, (by repeat (first | assumption | exact Below.refl _ _ | (refine below_chain ?_ (by assumption) (by first | omega | (simp <;> omega) | simp)) | (refine Below.alloc ?_ (by first | omega | (simp <;> omega) | simp) _) | (apply below_drewN) | (apply below_drew) | (refine Below.setCell ?_ (by first | omega | (simp <;> omega) | simp) _)))⟩
      case measure => simp [intOf]; omega
    · have e : k = zs.length := by omega
      subst e
      go_wp2_with fail
      go_ret
      exact ⟨rfl, (by repeat (first | assumption | exact Below.refl _ _ | (refine below_chain ?_ (by assumption) (by first | omega | (simp <;> omega) | simp)) | (refine Below.alloc ?_ (by first | omega | (simp <;> omega) | simp) _) | (apply below_drewN) | (apply below_drew) | (refine Below.setCell ?_ (by first | omega | (simp <;> omega) | simp) _)))⟩
theorem sameInts_nil (p q : Option Addr) (c d : Nat) (w : World) :
    Calls Try.prog 17 #[.slice p 0 c, .slice q 0 d] w fun e w' => e = .returned (.bool true) ∧ Below w.heap.size w w' := sameInts_is p q c d [] w (.inl rfl) (.inl rfl) (by simp)

def allTo (L : List Int) : Nat → Bool
  | 0 => true
  | k + 1 => allTo L k && decide (htAt L k = 0)
theorem allTo_take (L : List Int) : ∀ k, k ≤ L.length → allTo L k = (L.take k).all (fun z => decide (z = 0))
  | 0, _ => by simp [allTo]
  | k + 1, h => by
    have hk : k < L.length := by omega
    rw [allTo, allTo_take L k (by omega), List.take_add_one, List.getElem?_eq_getElem hk, htAt_nat (List.getElem?_eq_getElem hk), List.all_append]
    simp only [Option.toList, List.all_cons, List.all_nil, Bool.and_true]
theorem allTo_len (L : List Int) : allTo L L.length = L.all (fun z => decide (z = 0)) := by rw [allTo_take L _ (Nat.le_refl _), List.take_length]
/-- what the law asks of the labels -/
structure LabOk (rs : List Rn) (zs : List Int) : Prop where
  node : ∀ i : Nat, i < zs.length → ∃ a : Nat, zs[i]? = some (a : Int) ∧ a ≤ i ∧ zs[a]? = some (a : Int)
  run : ∀ (i : Nat) (r : Rn), rs[i]? = some r → ∃ (a b : Nat) (y : Int), r.f = (a : Int) ∧ r.t = (b : Int) ∧ a < zs.length ∧ b < zs.length ∧ zs[a]? = some y ∧ zs[b]? = some y
theorem lab_ok {N : Nat} {rs : List Rn} (h : nOk N rs = true) : LabOk rs (labs N rs) := by
  have hl := labs_len N rs
  have hL := labs_is N rs
  refine ⟨fun i hi => ?_, fun i r hr => ?_⟩
  · have h1 := hL.lst i (by omega) (by omega)
    have e1 := htAt_get (L := labs N rs) (x := (i : Int)) (by omega) (by omega)
    rw [Int.toNat_natCast] at e1
    obtain ⟨a, ha⟩ : ∃ a : Nat, htAt (labs N rs) i = (a : Int) := ⟨(htAt (labs N rs) i).toNat, by have := h1.lo; omega⟩
    rw [ha] at h1 e1
    have hai := h1.le
    have h2 := hL.lst a (by omega) (by omega)
    have e2 := htAt_get (L := labs N rs) (x := (a : Int)) (by omega) (by omega)
    rw [Int.toNat_natCast] at e2
    have : (a : Int) = htAt (labs N rs) a := Lst.of_same (by omega) (by omega) h1 h2 h1.same.symm
    rw [← this] at e2
    exact ⟨a, e1, by omega, e2⟩
  · obtain ⟨a1, a2, a3, a4, -⟩ := rOk_true ((nOk_true h).2.2.2 i r hr)
    have e1 := htAt_get (L := labs N rs) a1 (by omega)
    have e2 := htAt_get (L := labs N rs) a3 (by omega)
    have : htAt (labs N rs) r.f = htAt (labs N rs) r.t := Lst.of_same a2 a4 (hL.lst _ a1 a2) (hL.lst _ a3 a4) (Same.run (List.mem_of_getElem? hr))
    rw [← this] at e2
    exact ⟨r.f.toNat, r.t.toNat, _, by omega, by omega, by omega, by omega, e1, e2⟩
end Go.Proofs.Ytjfbkafekkbcdaa
