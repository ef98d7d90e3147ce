/-
  How the laws copy lists of lists of integers, compare them, mark what is theirs and look whether it holds.
-/
import Derived.Test.YthpfhbogpnhgmaaNi
import Derived.Test.YthpfhbogpnhgmaaGs
namespace Go.Proofs.Ythpfhbogpnhgmaa
open Go.RowKit
set_option linter.unusedVariables false

theorem info_intsJ : (Try.prog.info? 29).map (fun i => (i.zero, i.size, i.bytes)) = some (some (.slice none 0 0), 1, 24) := by kernel_rfl
theorem made_rows (w : World) (n : Nat) (hn : n ≤ 1048576) : (Instr.makeSlice 23 (.int .i64 (n : Int)) (.int .i64 (n : Int))).run Try.prog w = .ok (.slice (some ⟨w.heap.size, 0, none⟩) n n) (w.alloc (.cells (madeCells (Array.replicate 1 (.slice none 0 0)) (n * 1)) 29)) := by
  obtain ⟨i, hi, hzz⟩ := Option.map_eq_some_iff.1 info_intsJ
  simp only [Prod.mk.injEq] at hzz
  obtain ⟨hz, hs, hb⟩ := hzz
  have := run_make (P := Try.prog) w 23 29 i _ Try.underlying23 hi hz .i64 .i64 n n (by omega) (Int.le_refl _) (by rw [hb]; omega) (by omega)
  simp only [Int.toNat_natCast, hs] at this
  exact this
theorem GridT.made (w : World) (TI TR : TypeId) (n : Nat) (hn : n ≤ 1048576) : GridT (w.alloc (.cells (madeCells (Array.replicate 1 (.slice none 0 0)) (n * 1)) TR)) TI TR w.heap.size w.heap.size n [] [] := by
  refine ⟨.of (Deep.blk_alloc_new _ _) (Nat.le_refl _) (by unfold maxLen; omega) (size_madeCells _ _) ?_ (by simp [rowVs]), rfl, fun i b c r h => by simp at h, fun i b c h => by simp at h, fun i j b c b' c' h => by simp at h, Nat.le_refl _⟩
  rw [List.take_of_length_le (by simp [size_madeCells])]
  refine List.ext_getElem? (fun i => ?_)
  by_cases h : i < n
  · simp [madeCells, rowVs, h, Nat.mod_one]
  · simp [madeCells, rowVs, h]
set_option maxHeartbeats 1000000 in
theorem szG (c : Nat) (p : Option Addr) (L : List (List Int)) (v : Int) (w : World) (h : GRead w p L) (hl : L.length ≤ 9223372036854775807) (hr : ∀ r ∈ L, r.length ≤ 9223372036854775807) (h0 : 0 ≤ v) (h1 : v ≤ 1048576) :
    Calls Try.prog 30 #[.slice p L.length c, .int .i64 v] w fun e w' => ∃ u : Int, e = .returned (.int .i64 u) ∧ w = w' ∧ u ≤ 1048576 ∧ (0 ≤ u → L.length ≤ 1048576 ∧ ∀ r ∈ L, r.length ≤ 1048576) := by
  obtain ⟨k, hk⟩ : ∃ k, L.length = k := ⟨_, rfl⟩
  rw [hk] at hl ⊢
  have H := Lib.hid (And.intro h (And.intro hk hr))
  clear h hr hk
  by_cases hv : v < (k : Int)
  · go_enter Try.func30, Try.ntmps30
    go_wp2_with fail
    go_ret
    exact ⟨-1, rfl, rfl, by omega, fun h => by omega⟩
  · go_enter Try.func30, Try.ntmps30
    go_wp2_with fail
    go_loopw [1, 5] (fun u i wr => ∃ (j : Nat) (x : Int), j ≤ k ∧ i = .int .i64 j ∧ u = .int .i64 x ∧ (0 ≤ x ∧ x ≤ 1048576) ∧ (∀ r ∈ L.take j, r.length ≤ 1048576) ∧ w = wr) (fun _ i _ => k - (intOf i).toNat)
    case atStart => exact ⟨0, _, Nat.zero_le _, rfl, rfl, by omega, by simp, rfl⟩
    case round =>
      obtain ⟨j, x, hj, rfl, rfl, ⟨x0, x1⟩, hs, rfl⟩ := hrel
      by_cases hlt : j < k
      · obtain ⟨B, o, r, q, cq, rfl, hr, hB, e0, hcq, hi⟩ := H.out.1.at (i := j) (by rw [H.out.2.1]; exact hlt)
        have hrl := H.out.2.2 r (List.mem_of_getElem? hr)
        obtain ⟨n, hn⟩ : ∃ n, r.length = n := ⟨_, rfl⟩
        rw [hn] at e0 hrl
        have hlt' : (j : Int) < (k : Int) := by omega
        have c1 := fun w => Lib.hid (szIntsS q n cq x w hrl x0 x1)
        by_cases hx : x < (n : Int)
        · have c2 := fun w => Lib.hid (by have := (c1 w).out; rwa [if_pos hx] at this)
          clear c1 hs hr hi hn hcq
          go_wp2_with ((go_at_call 54; (with_reducible refine ((c2 _).out).mono ?_); rintro e w' ⟨rfl, rfl⟩))
          go_ret
          exact ⟨-1, rfl, rfl, by omega, fun h => by omega⟩
        · have c2 := fun w => Lib.hid (by have := (c1 w).out; rwa [if_neg hx] at this)
          have HN : Hid (∀ r ∈ L.take (j + 1), r.length ≤ 1048576) := Lib.hid (by
            rw [List.take_add_one, hr]; intro y hy
            rcases List.mem_append.1 hy with h | h
            · exact hs y h
            · simp at h; subst h; omega)
          clear c1 hs hr hi hn hcq
          go_wp2_with ((go_at_call 54; (with_reducible refine ((c2 _).out).mono ?_); rintro e w' ⟨rfl, rfl⟩))
          go_roundw
          case rel => exact ⟨j + 1, _, by omega, by go_num, rfl, by omega, HN.out, by first | trivial | rfl⟩
          case measure => simp [intOf]; omega
      · have e : j = k := by omega
        subst e
        have HN : Hid (∀ r ∈ L, r.length ≤ 1048576) := Lib.hid (by rw [List.take_of_length_le (Nat.le_of_eq H.out.2.1)] at hs; exact hs)
        clear hs
        go_wp2_with fail
        go_ret
        exact ⟨x, rfl, rfl, x1, fun _ => ⟨by omega, HN.out⟩⟩
set_option maxHeartbeats 1000000 in
theorem eqG (p q : Option Addr) (c d : Nat) (L : List (List Int)) (w : World) (h : GRead w p L) (hq : GRead w q L) (hl : L.length ≤ 1048576) (hr : ∀ r ∈ L, r.length ≤ 1048576) :
    Calls Try.prog 34 #[.slice p L.length c, .slice q L.length d] w fun e w' => e = .returned (.bool true) ∧ Below w.heap.size w w' := by
  obtain ⟨k, hk⟩ : ∃ k, L.length = k := ⟨_, rfl⟩
  rw [hk] at hl ⊢
  have H := Lib.hid (And.intro h (And.intro hq (And.intro hk hr)))
  clear h hq hr hk
  go_enter Try.func34, Try.ntmps34
  go_wp2_with fail
  go_loopw [5] (fun i wr => ∃ j : Nat, j ≤ k ∧ i = .int .i64 j ∧ Below w.heap.size w wr) (fun i _ => k - (intOf i).toNat)
  case atStart => exact ⟨0, Nat.zero_le _, rfl, Below.refl _ _⟩
  case round =>
    obtain ⟨j, hj, rfl, hbr⟩ := hrel
    have hbs := hbr.size
    by_cases hlt : j < k
    · obtain ⟨B, o, r, q1, cq, rfl, hr, hB, e0, hcq, hi⟩ := (H.out.1.below hbr).at (i := j) (by rw [H.out.2.2.1]; exact hlt)
      obtain ⟨B2, o2, r2, q2, cq2, rfl, hr2, hB2, e2, hcq2, hi2⟩ := (H.out.2.1.below hbr).at (i := j) (by rw [H.out.2.2.1]; exact hlt)
      obtain rfl : r = r2 := by rw [hr] at hr2; cases hr2; rfl
      have hrl := H.out.2.2.2 r (List.mem_of_getElem? hr)
      have hlt' : (j : Int) < (k : Int) := by omega
      obtain ⟨n, hn⟩ : ∃ n, r.length = n := ⟨_, rfl⟩
      have c1 : ∀ W : World, (∀ b o, W.cell? ⟨b, o, none⟩ = wr.cell? ⟨b, o, none⟩) → W.heap.size = wr.heap.size → ∀ d : Ext W, Hid (Calls Try.prog 39 #[.slice q1 n cq, .slice q2 n cq2] d.now fun e w' => e = .returned (.bool true) ∧ Below d.now.heap.size d.now w') := fun W hc hs d => Lib.hid (by
        have h1 : Ints W q1 r := by
          rcases hi with rfl | ⟨B, o, rfl, hB, hx⟩
          · exact .inl rfl
          · exact .inr ⟨B, o, rfl, by omega, fun i z hi => (hc _ _).trans (hx i z hi)⟩
        have h2 : Ints W q2 r := by
          rcases hi2 with rfl | ⟨B, o, rfl, hB, hx⟩
          · exact .inl rfl
          · exact .inr ⟨B, o, rfl, by omega, fun i z hi => (hc _ _).trans (hx i z hi)⟩
        have := eqInts q1 q2 cq cq2 r d.now (h1.below d.grown) (h2.below d.grown) (by omega)
        rwa [hn] at this)
      rw [hn] at e0 e2
      have HC := Lib.hid c1
      have HB := Lib.hid hbr
      clear hr hr2 hi hi2 hrl hn hcq hcq2 c1 hbr
      go_wp2_with fail
      (refine wp_region_grows (by kernel_rfl) (by kernel_rfl) ?_; intro W_wg hWc_wg hWs_wg hWe_wg; (repeat (go_big_quiet_step ((go_at_call 39; with_reducible exact Ext.call ((HC.out _ hWc_wg hWs_wg _).out))))); with_reducible refine wpQuiet_nil ?_; clear hWe_wg hWs_wg hWc_wg W_wg; intro wg hb_wg; obtain ⟨hc_wg, hf_wg⟩ := bcell hb_wg; (try simp only [World.size_drew, World.cell?_drew, World.frozen?_drew, World.heap_drewN, World.cell?_drewN, World.frozen?_drewN] at hc_wg hf_wg); have hs_wg := hb_wg.size; (try simp at hs_wg))
      go_wp2_with fail
      go_roundw
      case rel => exact ⟨j + 1, by omega, by go_num, HB.out.trans (hb_wg.mono hbs)⟩
      case measure => simp [intOf]; omega
    · have e : j = k := by omega
      subst e
      go_wp2_with fail
      go_ret
      exact ⟨rfl, hbr⟩
end Go.Proofs.Ythpfhbogpnhgmaa
