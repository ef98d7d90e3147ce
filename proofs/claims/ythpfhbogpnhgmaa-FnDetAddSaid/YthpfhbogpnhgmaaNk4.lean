/-
  How the laws on draws compare matrices and lists.
-/
import Derived.Test.YthpfhbogpnhgmaaNk3
namespace Go.Proofs.Ythpfhbogpnhgmaa
open Go.RowKit
set_option linter.unusedVariables false

set_option maxHeartbeats 1000000 in
theorem sameI (p q : Option Addr) (c d : Nat) (zs : List Int) (w : World) (hp : Ints w p zs) (hq : Ints w q zs) (hl : zs.length ≤ 4000000000000000000) :
    Calls Try.prog 24 #[.slice p zs.length c, .slice q zs.length d] w fun e w' => e = .returned (.bool true) ∧ Below w.heap.size w w' := by
  have H := Lib.hid (And.intro hp hq)
  clear hp hq
  go_enter Try.func24, Try.ntmps24
  go_wp2_with fail
  go_loopw [5] (fun i wr => ∃ k : Nat, k ≤ zs.length ∧ i = .int .i64 k ∧ Below w.heap.size w wr) (fun i _ => zs.length - (intOf i).toNat)
  case atStart => exact ⟨0, Nat.zero_le _, rfl, Below.refl _ _⟩
  case round =>
    obtain ⟨k, hk, rfl, hbr⟩ := hrel
    have hbs := hbr.size
    by_cases hlt : k < zs.length
    · obtain ⟨B, o, r, rfl, hr, hB, e0⟩ := (H.out.1.below hbr).at hlt
      obtain ⟨B', o', r', rfl, hr', hB', e1⟩ := (H.out.2.below hbr).at hlt
      obtain rfl : r = r' := by rw [hr] at hr'; cases hr'; rfl
      clear hr hr'
      go_wp2_with fail
      (refine wp_region_grows (by kernel_rfl) (by kernel_rfl) ?_; intro W_wg hWc_wg hWs_wg hWe_wg; (repeat (go_big_quiet_step (fail))); with_reducible refine wpQuiet_nil ?_; clear hWe_wg hWs_wg hWc_wg W_wg; intro wg hb_wg; obtain ⟨hc_wg, hf_wg⟩ := bcell hb_wg; (try simp only [World.size_drew, World.cell?_drew, World.frozen?_drew, World.heap_drewN, World.cell?_drewN, World.frozen?_drewN] at hc_wg hf_wg); have hs_wg := hb_wg.size; (try simp at hs_wg))
      go_wp2_with fail
      go_roundw
      case rel => exact ⟨k + 1, by omega, by go_num, (by repeat (first | assumption | exact Below.refl _ _ | (refine below_chain ?_ (by assumption) (by first | omega | (simp <;> omega) | simp)) | (refine Below.alloc ?_ (by first | omega | (simp <;> omega) | simp) _) | (apply below_drewN) | (apply below_drew) | (refine Below.setCell ?_ (by first | omega | (simp <;> omega) | simp) _)))⟩
      case measure => simp [intOf]; omega
    · have e : k = zs.length := by omega
      subst e
      go_wp2_with fail
      go_ret
      exact ⟨rfl, (by repeat (first | assumption | exact Below.refl _ _ | (refine below_chain ?_ (by assumption) (by first | omega | (simp <;> omega) | simp)) | (refine Below.alloc ?_ (by first | omega | (simp <;> omega) | simp) _) | (apply below_drewN) | (apply below_drew) | (refine Below.setCell ?_ (by first | omega | (simp <;> omega) | simp) _)))⟩
theorem sameI_nil (p q : Option Addr) (c d : Nat) (w : World) :
    Calls Try.prog 24 #[.slice p 0 c, .slice q 0 d] w fun e w' => e = .returned (.bool true) ∧ Below w.heap.size w w' := sameI p q c d [] w (.inl rfl) (.inl rfl) (by simp)

set_option maxHeartbeats 2000000 in
set_option maxRecDepth 100000 in
theorem sameR (p q : Option Addr) (c d : Nat) (L : List (List Int)) (w : World) (h : GRead w p L) (hq : GRead w q L) (hl : L.length ≤ 1048576) (hr : ∀ r ∈ L, r.length ≤ 1048576) :
    Calls Try.prog 22 #[.slice p L.length c, .slice q L.length d] w fun e w' => e = .returned (.bool true) ∧ Below w.heap.size w w' := by
  obtain ⟨k, hk⟩ : ∃ k, L.length = k := ⟨_, rfl⟩
  rw [hk] at hl ⊢
  have H := Lib.hid (And.intro h (And.intro hq (And.intro hk hr)))
  clear h hq hr hk
  go_enter Try.func22, Try.ntmps22
  go_wp2_with fail
  go_loopw [5] (fun i wr => ∃ j : Nat, j ≤ k ∧ i = .int .i64 j ∧ Below w.heap.size w wr) (fun i _ => k - (intOf i).toNat)
  case atStart => exact ⟨0, Nat.zero_le _, rfl, Below.refl _ _⟩
  case round =>
    obtain ⟨j, hj, rfl, hbr⟩ := hrel
    have hbs := hbr.size
    by_cases hlt : j < k
    · obtain ⟨B, o, r, q1, cq, rfl, hr, hB, e0, hcq, hi⟩ := (H.out.1.below hbr).at (i := j) (by rw [H.out.2.2.1]; exact hlt)
      obtain ⟨B2, o2, r2, q2, cq2, rfl, hr2, hB2, e2, hcq2, hi2⟩ := (H.out.2.1.below hbr).at (i := j) (by rw [H.out.2.2.1]; exact hlt)
      obtain rfl : r = r2 := by rw [hr] at hr2; cases hr2; rfl
      have hrl := H.out.2.2.2 r (List.mem_of_getElem? hr)
      have hlt' : (j : Int) < (k : Int) := by omega
      obtain ⟨n, hn⟩ : ∃ n, r.length = n := ⟨_, rfl⟩
      have c1 : ∀ W : World, (∀ b o, W.cell? ⟨b, o, none⟩ = wr.cell? ⟨b, o, none⟩) → W.heap.size = wr.heap.size → ∀ d : Ext W, Hid (Calls Try.prog 24 #[.slice q1 n cq, .slice q2 n cq2] d.now fun e w' => e = .returned (.bool true) ∧ Below d.now.heap.size d.now w') := fun W hc hs d => Lib.hid (by
        have h1 : Ints W q1 r := by
          rcases hi with rfl | ⟨B, o, rfl, hB, hx⟩
          · exact .inl rfl
          · exact .inr ⟨B, o, rfl, by omega, fun i z hi => (hc _ _).trans (hx i z hi)⟩
        have h2 : Ints W q2 r := by
          rcases hi2 with rfl | ⟨B, o, rfl, hB, hx⟩
          · exact .inl rfl
          · exact .inr ⟨B, o, rfl, by omega, fun i z hi => (hc _ _).trans (hx i z hi)⟩
        have := sameI q1 q2 cq cq2 r d.now (h1.below d.grown) (h2.below d.grown) (by omega)
        rwa [hn] at this)
      rw [hn] at e0 e2
      have HC := Lib.hid c1
      have HB := Lib.hid hbr
      clear hr hr2 hi hi2 hrl hn hcq hcq2 c1 hbr
      go_wp2_with fail
      (refine wp_region_grows (by kernel_rfl) (by kernel_rfl) ?_; intro W_wg hWc_wg hWs_wg hWe_wg; (repeat (go_big_quiet_step ((go_at_call 24; with_reducible exact Ext.call ((HC.out _ hWc_wg hWs_wg _).out))))); with_reducible refine wpQuiet_nil ?_; clear hWe_wg hWs_wg hWc_wg W_wg; intro wg hb_wg; obtain ⟨hc_wg, hf_wg⟩ := bcell hb_wg; (try simp only [World.size_drew, World.cell?_drew, World.frozen?_drew, World.heap_drewN, World.cell?_drewN, World.frozen?_drewN] at hc_wg hf_wg); have hs_wg := hb_wg.size; (try simp at hs_wg))
      go_wp2_with fail
      go_roundw
      case rel => exact ⟨j + 1, by omega, by go_num, HB.out.trans (hb_wg.mono hbs)⟩
      case measure => simp [intOf]; omega
    · have e : j = k := by omega
      subst e
      go_wp2_with fail
      go_ret
      exact ⟨rfl, hbr⟩
theorem sameI_at {n : Nat} {zs : List Int} (hn : zs.length = n) (p q : Option Addr) (c d : Nat) (w : World) (hp : Ints w p zs) (hq : Ints w q zs) (hl : n ≤ 1048576) :
    Calls Try.prog 24 #[.slice p n c, .slice q n d] w fun e w' => e = .returned (.bool true) ∧ Below w.heap.size w w' := by subst hn; exact sameI p q c d zs w hp hq (by omega)
theorem sameR_at {k : Nat} {M : List (List Int)} (hm : M.length = k) (p q : Option Addr) (c d : Nat) (w : World) (h : GRead w p M) (hq : GRead w q M) (hl : k ≤ 1048576) (hr : ∀ r ∈ M, r.length ≤ 1048576) :
    Calls Try.prog 22 #[.slice p k c, .slice q k d] w fun e w' => e = .returned (.bool true) ∧ Below w.heap.size w w' := by subst hm; exact sameR p q c d M w h hq hl hr
theorem sameR_nil (p q : Option Addr) (c d : Nat) (w : World) :
    Calls Try.prog 22 #[.slice p 0 c, .slice q 0 d] w fun e w' => e = .returned (.bool true) ∧ Below w.heap.size w w' := sameR p q c d [] w (.inl rfl) (.inl rfl) (by simp) (by simp)
end Go.Proofs.Ythpfhbogpnhgmaa
