/-
  The reference model's loops: where a number begins and ends, whether a list has a number, what errors add up to.
-/
import Derived.Test.YtimghdffmdcheaaLo
import Derived.Test.YtimghdffmdcheaaNc
namespace Go.Proofs.Ytimghdffmdcheaa
open Go.RowKit
set_option linter.unusedVariables false

theorem nSize (z v : Int) (w : World) (h0 : -1000 ≤ z) (h1 : z ≤ 1000) (hv : (z.natAbs : Int) = v) :
    Calls Try.prog 81 #[.int .i64 z] w fun e w' => e = .returned (.int .i64 v) ∧ w = w' := by
  by_cases h : 0 ≤ z
  all_goals
    go_enter Try.func81, Try.ntmps81
    go_wp2
    go_ret
    exact ⟨ret_int (by omega), rfl⟩
set_option maxHeartbeats 1000000 in
theorem sEnds (m c : Nat) (p : Option Addr) (rs : List Rn) (z : Int) (w : World) (h : Runs w p rs) (hm : rs.length = m) (hl : m ≤ 12) (h0 : 0 ≤ ix z) (h1 : ix z < rs.length) :
    Calls Try.prog 55 #[.slice p m c, .int .i64 z] w fun e w' => e = .returned (.tuple #[.int .i64 (bg rs z), .int .i64 (en rs z)]) ∧ Below w.heap.size w w' := by
  obtain ⟨u, hu⟩ : ∃ u : Nat, ix z = u := ⟨(ix z).toNat, by omega⟩
  have hz : (z.natAbs : Int) = (u : Int) + 1 := by unfold ix at hu; omega
  have hum : (u : Int) < (m : Int) := by omega
  have cs := fun w => Lib.hid (nSize z _ w (by omega) (by omega) hz)
  obtain ⟨B, o, r, rfl, hr, hB, x0, x1, x2, x3⟩ := h.at (i := u) (by omega)
  have er : runOf rs (u : Int) = r := by unfold runOf; simp [hr]
  by_cases hz0 : z < 0
  · have HX := Lib.hid (show bg rs z = r.t ∧ en rs z = r.f by unfold bg en; rw [if_pos hz0, if_pos hz0, hu, er]; exact ⟨rfl, rfl⟩)
    clear h hm h0 h1 hu hz hr er
    go_enter Try.func55, Try.ntmps55
    go_wp2_with ((go_at_call 81; (with_reducible refine ((cs _).out).mono ?_); rintro e w' ⟨rfl, rfl⟩))
    (refine wp_region_grows (by kernel_rfl) (by kernel_rfl) ?_; intro W_wg hWc_wg hWs_wg hWe_wg; (repeat (go_big_quiet_step (fail))); with_reducible refine wpQuiet_nil ?_; clear hWe_wg hWs_wg hWc_wg W_wg; intro wg hb_wg; obtain ⟨hc_wg, hf_wg⟩ := bcell hb_wg; (try simp only [World.size_drew, World.cell?_drew, World.frozen?_drew, World.heap_drewN, World.cell?_drewN, World.frozen?_drewN] at hc_wg hf_wg); have hs_wg := hb_wg.size; (try simp at hs_wg))
    go_wp2_with fail
    refine bodyPost_ret (v := .tuple #[.int .i64 r.t, .int .i64 r.f]) (by simp [results, Try.results55, go_sem]) rfl ⟨by rw [HX.out.1, HX.out.2], (by repeat (first | assumption | exact Below.refl _ _ | (refine below_chain ?_ (by assumption) (by first | omega | (simp <;> omega) | simp)) | (refine Below.alloc ?_ (by first | omega | (simp <;> omega) | simp) _) | (apply below_drewN) | (apply below_drew) | (refine Below.setCell ?_ (by first | omega | (simp <;> omega) | simp) _)))⟩
  · have HX := Lib.hid (show bg rs z = r.f ∧ en rs z = r.t by unfold bg en; rw [if_neg hz0, if_neg hz0, hu, er]; exact ⟨rfl, rfl⟩)
    clear h hm h0 h1 hu hz hr er
    go_enter Try.func55, Try.ntmps55
    go_wp2_with ((go_at_call 81; (with_reducible refine ((cs _).out).mono ?_); rintro e w' ⟨rfl, rfl⟩))
    (refine wp_region_grows (by kernel_rfl) (by kernel_rfl) ?_; intro W_wg hWc_wg hWs_wg hWe_wg; (repeat (go_big_quiet_step (fail))); with_reducible refine wpQuiet_nil ?_; clear hWe_wg hWs_wg hWc_wg W_wg; intro wg hb_wg; obtain ⟨hc_wg, hf_wg⟩ := bcell hb_wg; (try simp only [World.size_drew, World.cell?_drew, World.frozen?_drew, World.heap_drewN, World.cell?_drewN, World.frozen?_drewN] at hc_wg hf_wg); have hs_wg := hb_wg.size; (try simp at hs_wg))
    go_wp2_with fail
    refine bodyPost_ret (v := .tuple #[.int .i64 r.f, .int .i64 r.t]) (by simp [results, Try.results55, go_sem]) rfl ⟨by rw [HX.out.1, HX.out.2], (by repeat (first | assumption | exact Below.refl _ _ | (refine below_chain ?_ (by assumption) (by first | omega | (simp <;> omega) | simp)) | (refine Below.alloc ?_ (by first | omega | (simp <;> omega) | simp) _) | (apply below_drewN) | (apply below_drew) | (refine Below.setCell ?_ (by first | omega | (simp <;> omega) | simp) _)))⟩
theorem sHas (k c : Nat) (p : Option Addr) (T : List Int) (z : Int) (b : Bool) (w : World) (h : Ints w p T) (hk : T.length = k) (hl : k ≤ 1000) (hb : (open Classical in decide (z ∈ T)) = b) :
    Calls Try.prog 65 #[.slice p k c, .int .i64 z] w fun e w' => e = .returned (.bool b) ∧ w = w' := by
  have H := Lib.hid (And.intro h (And.intro hk hb))
  clear h hk hb
  go_enter Try.func65, Try.ntmps65
  go_wp2_with fail
  go_loopw [5] (fun i wr => ∃ j : Nat, j ≤ k ∧ i = .int .i64 j ∧ z ∉ T.take j ∧ w = wr) (fun i _ => k - (intOf i).toNat)
  case atStart => exact ⟨0, Nat.zero_le _, rfl, by simp, rfl⟩
  case round =>
    obtain ⟨j, hj, rfl, hn, rfl⟩ := hrel
    by_cases hlt : j < k
    · obtain ⟨B, o, y, rfl, hy, hB, e0⟩ := H.out.1.at (i := j) (by have := H.out.2.1; omega)
      have HX := Lib.hid (And.intro hy hn)
      clear hy hn
      by_cases hyz : y = z
      · have HB : Hid (true = b) := Lib.hid (by rw [← H.out.2.2]; exact (decide_eq_true (by rw [← hyz]; exact List.mem_of_getElem? HX.out.1)).symm)
        subst hyz
        go_wp2_with fail
        go_ret
        exact ⟨ret_bool HB.out, rfl⟩
      · have hyz' : (y == z) = false := by simpa using hyz
        have HN : Hid (z ∉ T.take (j + 1)) := Lib.hid (by rw [take_succ_of HX.out.1]; intro hc; rcases List.mem_append.1 hc with h | h; exact HX.out.2 h; simp at h; exact hyz h.symm)
        go_wp2_with fail
        go_roundw
        case rel => exact ⟨j + 1, by omega, by go_num, HN.out, by first | trivial | rfl⟩
        case measure => simp [intOf]; omega
    · have e : j = k := by omega
      subst e
      have HB : Hid (false = b) := Lib.hid (by rw [← H.out.2.2]; rw [List.take_of_length_le (Nat.le_of_eq H.out.2.1)] at hn; exact (decide_eq_false hn).symm)
      go_wp2_with fail
      go_ret
      exact ⟨ret_bool HB.out, rfl⟩
theorem lsum_low {rs : List Rn} : ∀ {L : List Int}, (∀ z ∈ L, -100000 ≤ er rs z ∧ er rs z ≤ 100000) → -(100000 * (L.length : Int)) ≤ lsum rs L ∧ lsum rs L ≤ 100000 * (L.length : Int)
  | [], _ => by rw [lsum_nil]; simp
  | z :: L, h => by
    have a := h z (by simp)
    have b := lsum_low (L := L) (fun y hy => h y (by simp [hy]))
    rw [lsum_cons, List.length_cons]
    omega
theorem lsum_one {rs : List Rn} {z : Int} : lsum rs [z] = er rs z := by rw [lsum_cons, lsum_nil]; omega
set_option maxHeartbeats 1000000 in
theorem sErr (m c k d : Nat) (p q : Option Addr) (rs : List Rn) (L : List Int) (w : World) (h : Runs w p rs) (hq : Ints w q L) (hm : rs.length = m) (hk : L.length = k) (hl : k ≤ 12) (hm12 : m ≤ 12) (hz : ∀ z ∈ L, 0 ≤ ix z ∧ ix z < rs.length) (hs : ∀ r ∈ rs, -100000 ≤ r.s ∧ r.s ≤ 100000) :
    Calls Try.prog 73 #[.slice p m c, .slice q k d] w fun e w' => e = .returned (.int .i64 (lsum rs L)) ∧ w = w' := by
  have H := Lib.hid (And.intro h (And.intro hq (And.intro hm (And.intro hk (And.intro hz hs)))))
  have HL : Hid (∀ z ∈ L, -100000 ≤ er rs z ∧ er rs z ≤ 100000) := Lib.hid (fun z hz' => by
    obtain ⟨a, b⟩ := hz z hz'
    have := hs _ (List.mem_of_getElem? (runOf_at a b))
    unfold er; split <;> omega)
  clear h hq hm hk hz hs
  go_enter Try.func73, Try.ntmps73
  go_wp2_with fail
  go_loopw [5, 6] (fun s i wr => ∃ j : Nat, j ≤ k ∧ i = .int .i64 j ∧ s = .int .i64 (lsum rs (L.take j)) ∧ w = wr) (fun _ i _ => k - (intOf i).toNat)
  case atStart => exact ⟨0, Nat.zero_le _, rfl, rfl, rfl⟩
  case round =>
    obtain ⟨j, hj, rfl, rfl, rfl⟩ := hrel
    have hb := lsum_low (rs := rs) (L := L.take j) (fun z hz => HL.out z (List.mem_of_mem_take hz))
    have hlt12 : (L.take j).length ≤ 12 := by rw [List.length_take]; omega
    obtain ⟨s, hs⟩ : ∃ s, lsum rs (L.take j) = s := ⟨_, rfl⟩
    rw [hs] at hb ⊢
    have s0 : -1200000 ≤ s := by omega
    have s1 : s ≤ 1200000 := by omega
    clear hb hlt12
    by_cases hlt : j < k
    · obtain ⟨B, o, z, rfl, hz, hB, e0⟩ := H.out.2.1.at (i := j) (by have := H.out.2.2.2.1; omega)
      obtain ⟨z0, z1⟩ := H.out.2.2.2.2.1 z (List.mem_of_getElem? hz)
      have z2 := HL.out z (List.mem_of_getElem? hz)
      obtain ⟨u, hu⟩ : ∃ u : Nat, ix z = u := ⟨(ix z).toNat, by omega⟩
      have hum : (u : Int) < (m : Int) := by have := H.out.2.2.1; omega
      obtain ⟨D, o', r, rfl, hr, hD, x0, x1, x2, x3⟩ := H.out.1.at (i := u) (by have := H.out.2.2.1; omega)
      have er' : runOf rs (u : Int) = r := by unfold runOf; simp [hr]
      have HS : Hid (lsum rs (L.take (j + 1)) = s + er rs z) := Lib.hid (by rw [take_succ_of hz, lsum_append, lsum_one, hs])
      by_cases hz0 : 0 < z
      · obtain rfl : z = (u : Int) + 1 := by unfold ix at hu; omega
        have hX : er rs ((u : Int) + 1) = r.s := by unfold er; rw [if_neg (by omega), hu, er']
        rw [hX] at HS z2
        obtain ⟨r0, r1⟩ := z2
        clear hz hr er' hu z0 z1 hs hX
        go_wp2_with fail
        go_roundw
        case rel => exact ⟨j + 1, by omega, by go_num, by rw [HS.out], by first | trivial | rfl⟩
        case measure => simp [intOf]; omega
      · obtain rfl : z = -((u : Int) + 1) := by unfold ix at hu; omega
        have hX : er rs (-((u : Int) + 1)) = -r.s := by unfold er; rw [if_pos (by omega), hu, er']
        rw [hX] at HS z2
        obtain ⟨r0, r1⟩ := z2
        have hng : ¬ 0 < -((u : Int) + 1) := by omega
        have r2 : -100000 ≤ r.s := by omega
        have r3 : r.s ≤ 100000 := by omega
        clear hz hr er' hu z0 z1 hs hX
        go_wp2_with fail
        go_roundw
        case rel => exact ⟨j + 1, by omega, by go_num, by rw [HS.out]; go_num, by first | trivial | rfl⟩
        case measure => simp [intOf]; omega
    · have e : j = k := by omega
      subst e
      have HX : Hid (lsum rs L = s) := Lib.hid (by rw [← hs, List.take_of_length_le (Nat.le_of_eq H.out.2.2.2.1)])
      clear hs
      go_wp2_with fail
      go_ret
      exact ⟨ret_int HX.out.symm, rfl⟩
end Go.Proofs.Ytimghdffmdcheaa
