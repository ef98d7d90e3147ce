/-
  The reference model's loops: where a number begins and ends, whether a list has a number, what errors add up to.
  The reference model's LoopIs, LoopError and LoopBack, for any list.
  The reference model's search for the way along a tree.
-/
import Derived.Test.YtimghdffmdcheaaLz
import Derived.Test.YtimghdffmdcheaaNc
import Derived.Test.YtimghdffmdcheaaNLs
namespace Go.Proofs.Ytimghdffmdcheaa
open Go.RowKit
set_option linter.unusedVariables false

theorem nSize (z v : Int) (w : World) (h0 : -1000 ≤ z) (h1 : z ≤ 1000) (hv : (z.natAbs : Int) = v) :
    Calls Try.prog 81 #[.int .i64 z] w fun e w' => e = .returned (.int .i64 v) ∧ w = w' := by
  by_cases h : 0 ≤ z
  all_goals
    go_enter Try.func81, Try.ntmps81
    go_wp2
    go_ret
    exact ⟨ret_int (by omega), rfl⟩
set_option maxHeartbeats 1000000 in
theorem sEnds (m c : Nat) (p : Option Addr) (rs : List Rn) (z : Int) (w : World) (h : Runs w p rs) (hm : rs.length = m) (hl : m ≤ 12) (h0 : 0 ≤ ix z) (h1 : ix z < rs.length) :
    Calls Try.prog 55 #[.slice p m c, .int .i64 z] w fun e w' => e = .returned (.tuple #[.int .i64 (bg rs z), .int .i64 (en rs z)]) ∧ Below w.heap.size w w' := by
  obtain ⟨u, hu⟩ : ∃ u : Nat, ix z = u := ⟨(ix z).toNat, by omega⟩
  have hz : (z.natAbs : Int) = (u : Int) + 1 := by unfold ix at hu; omega
  have hum : (u : Int) < (m : Int) := by omega
  have cs := fun w => Lib.hid (nSize z _ w (by omega) (by omega) hz)
  obtain ⟨B, o, r, rfl, hr, hB, x0, x1, x2, x3⟩ := h.at (i := u) (by omega)
  have er : runOf rs (u : Int) = r := by unfold runOf; simp [hr]
  by_cases hz0 : z < 0
  · have HX := Lib.hid (show bg rs z = r.t ∧ en rs z = r.f by unfold bg en; rw [if_pos hz0, if_pos hz0, hu, er]; exact ⟨rfl, rfl⟩)
    clear h hm h0 h1 hu hz hr er
    go_enter Try.func55, Try.ntmps55
    go_wp2_with ((go_at_call 81; (with_reducible refine ((cs _).out).mono ?_); rintro e w' ⟨rfl, rfl⟩))
    (refine wp_region_grows (by kernel_rfl) (by kernel_rfl) ?_; intro W_wg hWc_wg hWs_wg hWe_wg; (repeat (go_big_quiet_step (fail))); with_reducible refine wpQuiet_nil ?_; clear hWe_wg hWs_wg hWc_wg W_wg; intro wg hb_wg; obtain ⟨hc_wg, hf_wg⟩ := bcell hb_wg; (try simp only [World.size_drew, World.cell?_drew, World.frozen?_drew, World.heap_drewN, World.cell?_drewN, World.frozen?_drewN] at hc_wg hf_wg); have hs_wg := hb_wg.size; (try simp at hs_wg))
    go_wp2_with fail
    refine bodyPost_ret (v := .tuple #[.int .i64 r.t, .int .i64 r.f]) (by simp [results, Try.results55, go_sem]) rfl ⟨by rw [HX.out.1, HX.out.2], (by repeat (first | assumption | exact Below.refl _ _ | (refine below_chain ?_ (by assumption) (by first | omega | (simp <;> omega) | simp)) | (refine Below.alloc ?_ (by first | omega | (simp <;> omega) | simp) _) | (apply below_drewN) | (apply below_drew) | (refine Below.setCell ?_ (by first | omega | (simp <;> omega) | simp) _)))⟩
  · have HX := Lib.hid (show bg rs z = r.f ∧ en rs z = r.t by unfold bg en; rw [if_neg hz0, if_neg hz0, hu, er]; exact ⟨rfl, rfl⟩)
    clear h hm h0 h1 hu hz hr er
    go_enter Try.func55, Try.ntmps55
    go_wp2_with ((go_at_call 81; (with_reducible refine ((cs _).out).mono ?_); rintro e w' ⟨rfl, rfl⟩))
    (refine wp_region_grows (by kernel_rfl) (by kernel_rfl) ?_; intro W_wg hWc_wg hWs_wg hWe_wg; (repeat (go_big_quiet_step (fail))); with_reducible refine wpQuiet_nil ?_; clear hWe_wg hWs_wg hWc_wg W_wg; intro wg hb_wg; obtain ⟨hc_wg, hf_wg⟩ := bcell hb_wg; (try simp only [World.size_drew, World.cell?_drew, World.frozen?_drew, World.heap_drewN, World.cell?_drewN, World.frozen?_drewN] at hc_wg hf_wg); have hs_wg := hb_wg.size; (try simp at hs_wg))
    go_wp2_with fail
    refine bodyPost_ret (v := .tuple #[.int .i64 r.f, .int .i64 r.t]) (by simp [results, Try.results55, go_sem]) rfl ⟨by rw [HX.out.1, HX.out.2], (by repeat (first | assumption | exact Below.refl _ _ | (refine below_chain ?_ (by assumption) (by first | omega | (simp <;> omega) | simp)) | (refine Below.alloc ?_ (by first | omega | (simp <;> omega) | simp) _) | (apply below_drewN) | (apply below_drew) | (refine Below.setCell ?_ (by first | omega | (simp <;> omega) | simp) _)))⟩
theorem sHas (k c : Nat) (p : Option Addr) (T : List Int) (z : Int) (b : Bool) (w : World) (h : Ints w p T) (hk : T.length = k) (hl : k ≤ 1000) (hb : (open Classical in decide (z ∈ T)) = b) :
    Calls Try.prog 65 #[.slice p k c, .int .i64 z] w fun e w' => e = .returned (.bool b) ∧ w = w' := by
  have H := Lib.hid (And.intro h (And.intro hk hb))
  clear h hk hb
  go_enter Try.func65, Try.ntmps65
  go_wp2_with fail
  go_loopw [5] (fun i wr => ∃ j : Nat, j ≤ k ∧ i = .int .i64 j ∧ z ∉ T.take j ∧ w = wr) (fun i _ => k - (intOf i).toNat)
  case atStart => exact ⟨0, Nat.zero_le _, rfl, by simp, rfl⟩
  case round =>
    obtain ⟨j, hj, rfl, hn, rfl⟩ := hrel
    by_cases hlt : j < k
    · obtain ⟨B, o, y, rfl, hy, hB, e0⟩ := H.out.1.at (i := j) (by have := H.out.2.1; omega)
      have HX := Lib.hid (And.intro hy hn)
      clear hy hn
      by_cases hyz : y = z
      · have HB : Hid (true = b) := Lib.hid (by rw [← H.out.2.2]; exact (decide_eq_true (by rw [← hyz]; exact List.mem_of_getElem? HX.out.1)).symm)
        subst hyz
        go_wp2_with fail
        go_ret
        exact ⟨ret_bool HB.out, rfl⟩
      · have hyz' : (y == z) = false := by simpa using hyz
        have HN : Hid (z ∉ T.take (j + 1)) := Lib.hid (by rw [take_succ_of HX.out.1]; intro hc; rcases List.mem_append.1 hc with h | h; exact HX.out.2 h; simp at h; exact hyz h.symm)
        go_wp2_with fail
        go_roundw
        case rel => exact ⟨j + 1, by omega, by go_num, HN.out, by first | trivial | rfl⟩
        case measure => simp [intOf]; omega
    · have e : j = k := by omega
      subst e
      have HB : Hid (false = b) := Lib.hid (by rw [← H.out.2.2]; rw [List.take_of_length_le (Nat.le_of_eq H.out.2.1)] at hn; exact (decide_eq_false hn).symm)
      go_wp2_with fail
      go_ret
      exact ⟨ret_bool HB.out, rfl⟩
theorem lsum_low {rs : List Rn} : ∀ {L : List Int}, (∀ z ∈ L, -100000 ≤ er rs z ∧ er rs z ≤ 100000) → -(100000 * (L.length : Int)) ≤ lsum rs L ∧ lsum rs L ≤ 100000 * (L.length : Int)
  | [], _ => by rw [lsum_nil]; simp
  | z :: L, h => by
    have a := h z (by simp)
    have b := lsum_low (L := L) (fun y hy => h y (by simp [hy]))
    rw [lsum_cons, List.length_cons]
    omega
theorem lsum_one {rs : List Rn} {z : Int} : lsum rs [z] = er rs z := by rw [lsum_cons, lsum_nil]; omega
set_option maxHeartbeats 1000000 in
theorem sErr (m c k d : Nat) (p q : Option Addr) (rs : List Rn) (L : List Int) (w : World) (h : Runs w p rs) (hq : Ints w q L) (hm : rs.length = m) (hk : L.length = k) (hl : k ≤ 12) (hm12 : m ≤ 12) (hz : ∀ z ∈ L, 0 ≤ ix z ∧ ix z < rs.length) (hs : ∀ r ∈ rs, -100000 ≤ r.s ∧ r.s ≤ 100000) :
    Calls Try.prog 73 #[.slice p m c, .slice q k d] w fun e w' => e = .returned (.int .i64 (lsum rs L)) ∧ w = w' := by
  have H := Lib.hid (And.intro h (And.intro hq (And.intro hm (And.intro hk (And.intro hz hs)))))
  have HL : Hid (∀ z ∈ L, -100000 ≤ er rs z ∧ er rs z ≤ 100000) := Lib.hid (fun z hz' => by
    obtain ⟨a, b⟩ := hz z hz'
    have := hs _ (List.mem_of_getElem? (runOf_at a b))
    unfold er; split <;> omega)
  clear h hq hm hk hz hs
  go_enter Try.func73, Try.ntmps73
  go_wp2_with fail
  go_loopw [5, 6] (fun s i wr => ∃ j : Nat, j ≤ k ∧ i = .int .i64 j ∧ s = .int .i64 (lsum rs (L.take j)) ∧ w = wr) (fun _ i _ => k - (intOf i).toNat)
  case atStart => exact ⟨0, Nat.zero_le _, rfl, rfl, rfl⟩
  case round =>
    obtain ⟨j, hj, rfl, rfl, rfl⟩ := hrel
    have hb := lsum_low (rs := rs) (L := L.take j) (fun z hz => HL.out z (List.mem_of_mem_take hz))
    have hlt12 : (L.take j).length ≤ 12 := by rw [List.length_take]; omega
    obtain ⟨s, hs⟩ : ∃ s, lsum rs (L.take j) = s := ⟨_, rfl⟩
    rw [hs] at hb ⊢
    have s0 : -1200000 ≤ s := by omega
    have s1 : s ≤ 1200000 := by omega
    clear hb hlt12
    by_cases hlt : j < k
    · obtain ⟨B, o, z, rfl, hz, hB, e0⟩ := H.out.2.1.at (i := j) (by have := H.out.2.2.2.1; omega)
      obtain ⟨z0, z1⟩ := H.out.2.2.2.2.1 z (List.mem_of_getElem? hz)
      have z2 := HL.out z (List.mem_of_getElem? hz)
      obtain ⟨u, hu⟩ : ∃ u : Nat, ix z = u := ⟨(ix z).toNat, by omega⟩
      have hum : (u : Int) < (m : Int) := by have := H.out.2.2.1; omega
      obtain ⟨D, o', r, rfl, hr, hD, x0, x1, x2, x3⟩ := H.out.1.at (i := u) (by have := H.out.2.2.1; omega)
      have er' : runOf rs (u : Int) = r := by unfold runOf; simp [hr]
      have HS : Hid (lsum rs (L.take (j + 1)) = s + er rs z) := Lib.hid (by rw [take_succ_of hz, lsum_append, lsum_one, hs])
      by_cases hz0 : 0 < z
      · obtain rfl : z = (u : Int) + 1 := by unfold ix at hu; omega
        have hX : er rs ((u : Int) + 1) = r.s := by unfold er; rw [if_neg (by omega), hu, er']
        rw [hX] at HS z2
        obtain ⟨r0, r1⟩ := z2
        clear hz hr er' hu z0 z1 hs hX
        go_wp2_with fail
        go_roundw
        case rel => exact ⟨j + 1, by omega, by go_num, by rw [HS.out], by first | trivial | rfl⟩
        case measure => simp [intOf]; omega
      · obtain rfl : z = -((u : Int) + 1) := by unfold ix at hu; omega
        have hX : er rs (-((u : Int) + 1)) = -r.s := by unfold er; rw [if_pos (by omega), hu, er']
        rw [hX] at HS z2
        obtain ⟨r0, r1⟩ := z2
        have hng : ¬ 0 < -((u : Int) + 1) := by omega
        have r2 : -100000 ≤ r.s := by omega
        have r3 : r.s ≤ 100000 := by omega
        clear hz hr er' hu z0 z1 hs hX
        go_wp2_with fail
        go_roundw
        case rel => exact ⟨j + 1, by omega, by go_num, by rw [HS.out]; go_num, by first | trivial | rfl⟩
        case measure => simp [intOf]; omega
    · have e : j = k := by omega
      subst e
      have HX : Hid (lsum rs L = s) := Lib.hid (by rw [← hs, List.take_of_length_le (Nat.le_of_eq H.out.2.2.2.1)])
      clear hs
      go_wp2_with fail
      go_ret
      exact ⟨ret_int HX.out.symm, rfl⟩
end Go.Proofs.Ytimghdffmdcheaa
namespace Go.Proofs.Ytimghdffmdcheaa
open Go.RowKit
set_option linter.unusedVariables false

theorem sValid_m {n : Int} {p : Option Addr} {c m : Nat} {rs : List Rn} {b : Bool} (w : World) (hm : rs.length = m) (h : Runs w p rs) (hl : m ≤ 4000000000000000000) (hb : nOk n rs = b) :
    Calls Try.prog 53 #[.int .i64 n, .slice p m c] w fun e w' => e = .returned (.bool b) ∧ Below w.heap.size w w' := by
  subst hm; exact sValid n p c rs b w h hl hb
set_option maxHeartbeats 4000000 in
theorem sLoopIs (n : Int) (m k : Nat) (p q : Option Addr) (c d : Nat) (rs : List Rn) (L : List Int) (b : Bool) (w : World) (h : Runs w p rs) (hq : Ints w q L) (hm : rs.length = m) (hk : L.length = k) (hl : m ≤ 4000000000000000000) (hl2 : k ≤ 4000000000000000000) (hb : isL n rs L = b) :
    Calls Try.prog 17 #[.int .i64 n, .slice p m c, .slice q k d] w fun e w' => e = .returned (.bool b) ∧ Below w.heap.size w w' := by
  obtain ⟨v, hv⟩ : ∃ v, nOk n rs = v := ⟨_, rfl⟩
  have c1 := fun w h => Lib.hid (sValid_m (p := p) (c := c) w hm h hl hv)
  have H := Lib.hid (And.intro h (And.intro hq (And.intro hm hk)))
  cases v
  · obtain rfl : b = false := by rw [← hb]; exact isL_false.2 (fun ht => by rw [ht.ok] at hv; cases hv)
    clear h hq hm hk hb hv
    go_enter Try.func17, Try.ntmps17
    go_wp2_with ((go_at_call 53; (with_reducible refine ((c1 _ ?_).out).mono ?_); (focus ((exact H.out.1); done)); rintro e wa ⟨rfl, hb_wa⟩; have hs_wa := hb_wa.size; (try simp at hs_wa)))
    go_ret
    exact ⟨rfl, (by repeat (first | assumption | exact Below.refl _ _ | (refine below_chain ?_ (by assumption) (by first | omega | (simp <;> omega) | simp)) | (refine Below.alloc ?_ (by first | omega | (simp <;> omega) | simp) _) | (apply below_drewN) | (apply below_drew) | (refine Below.setCell ?_ (by first | omega | (simp <;> omega) | simp) _)))⟩
  · by_cases hkk : 1 ≤ k ∧ k ≤ 12
    · have ci := fun w => Lib.hid (nIn (k : Int) 1 12 true w (by simp; omega))
      have hm12 : m ≤ 12 := by have := (nOk_true hv).2.2.1; omega
      obtain ⟨hk1, hk12⟩ := hkk
      have HB := Lib.hid (And.intro hb hv)
      clear h hq hm hk hb hv
      go_enter Try.func17, Try.ntmps17
      go_wp2_with (first | (go_at_call 53; (with_reducible refine ((c1 _ ?_).out).mono ?_); (focus ((exact H.out.1); done)); rintro e wa ⟨rfl, hb_wa⟩; have hs_wa := hb_wa.size; (try simp at hs_wa)) | (go_at_call 54; (with_reducible refine ((ci _).out).mono ?_); rintro e w' ⟨rfl, rfl⟩))
      clear c1 ci
      go_loopw [7] (fun i wr => ∃ j : Nat, j ≤ k ∧ i = .int .i64 j ∧ (∀ z ∈ L.take j, z ≠ 0 ∧ -(rs.length : Int) ≤ z ∧ z ≤ rs.length) ∧ wa = wr) (fun i _ => k - (intOf i).toNat)
      case atStart => exact ⟨0, Nat.zero_le _, rfl, by simp, rfl⟩
      case round =>
        obtain ⟨j, hj, rfl, hz, rfl⟩ := hrel
        have HZ := Lib.hid hz
        clear hz
        by_cases hlt : j < k
        · obtain ⟨B, o, z, rfl, hz, hB, e0⟩ := (H.out.2.1.below hb_wa).at (i := j) (by have := H.out.2.2.2; omega)
          have hno : ¬ (z ≠ 0 ∧ -(m : Int) ≤ z ∧ z ≤ (m : Int)) → false = b := fun hn => by
            rw [← HB.out.1]; exact (isL_false.2 (fun ht => hn (by have := ht.rng z (List.mem_of_getElem? hz); rw [H.out.2.2.1] at this; exact this))).symm
          have HN := Lib.hid hno
          have HJ := Lib.hid hz
          clear hz hno
          by_cases hin : -(m : Int) ≤ z ∧ z ≤ (m : Int)
          · have ci := fun w => Lib.hid (nIn z (-(m : Int)) m true w (by simpa using hin))
            by_cases hz0 : z = 0
            · subst hz0
              go_wp2_with ((go_at_call 54; (with_reducible refine ((ci _).out).mono ?_); rintro e w' ⟨rfl, rfl⟩))
              go_ret
              exact ⟨ret_bool (HN.out (fun h => h.1 rfl)), hb_wa⟩
            · have hz0' : (z == 0) = false := by simpa using hz0
              have HX : Hid (∀ y ∈ L.take (j + 1), y ≠ 0 ∧ -(rs.length : Int) ≤ y ∧ y ≤ rs.length) := Lib.hid (fun y hy => by
                rw [take_succ_of HJ.out] at hy
                rcases List.mem_append.1 hy with h | h
                · exact HZ.out y h
                · simp at h; subst h; rw [H.out.2.2.1]; exact ⟨hz0, hin⟩)
              clear hin
              go_wp2_with ((go_at_call 54; (with_reducible refine ((ci _).out).mono ?_); rintro e w' ⟨rfl, rfl⟩))
              go_roundw
              case rel => exact ⟨j + 1, by omega, by go_num, HX.out, by first | trivial | rfl⟩
              case measure => simp [intOf]; omega
          · have ci := fun w => Lib.hid (nIn z (-(m : Int)) m false w (by simpa using hin))
            go_wp2_with ((go_at_call 54; (with_reducible refine ((ci _).out).mono ?_); rintro e w' ⟨rfl, rfl⟩))
            go_ret
            exact ⟨ret_bool (HN.out (fun h => hin h.2)), hb_wa⟩
        · have e : j = k := by omega
          subst e
          have HR : Hid (∀ z ∈ L, z ≠ 0 ∧ -(rs.length : Int) ≤ z ∧ z ≤ rs.length) := Lib.hid (by have := HZ.out; rwa [List.take_of_length_le (Nat.le_of_eq H.out.2.2.2)] at this)
          have hix : Hid (∀ z ∈ L, 0 ≤ ix z ∧ ix z < rs.length) := Lib.hid (fun z hz => by have := HR.out z hz; unfold ix; omega)
          clear hlt hj HZ
          go_wp2_with fail
          go_loopw [8] (fun i wr => ∃ l : Nat, l ≤ j ∧ i = .int .i64 l ∧ (∀ (i : Nat) (x y : Int), i < l → L[i]? = some x → L[(i + 1) % L.length]? = some y → en rs x = bg rs y) ∧ Below wa.heap.size wa wr) (fun i _ => j - (intOf i).toNat)
          case atStart => exact ⟨0, Nat.zero_le _, rfl, fun i x y hi => by omega, Below.refl _ _⟩
          case round =>
            obtain ⟨l, hll, rfl, hch, hbr⟩ := hrel
            have hbs := hbr.size
            have hB : Below w.heap.size w wr := hb_wa.trans (hbr.mono (by have := hb_wa.size; omega))
            have HC := Lib.hid hch
            clear hch
            by_cases hlt : l < j
            · have hs : Hid (Runs wr p rs ∧ Ints wr q L) := Lib.hid ⟨(H.out.1.below hb_wa).below hbr, (H.out.2.1.below hb_wa).below hbr⟩
              obtain ⟨B, o, x, rfl, hx, hB0, e0⟩ := hs.out.2.at (i := l) (by have := H.out.2.2.2; omega)
              obtain ⟨s, hs1⟩ : ∃ s, (l + 1) % j = s := ⟨_, rfl⟩
              have hsj : s < j := by rw [← hs1]; exact Nat.mod_lt _ (by omega)
              obtain ⟨B', o', y, e, hy, hB1, e1⟩ := hs.out.2.at (i := s) (by have := H.out.2.2.2; omega)
              cases e
              have c1 := fun w h => Lib.hid (sEnds m c p rs x w h H.out.2.2.1 hm12 (hix.out x (List.mem_of_getElem? hx)).1 (hix.out x (List.mem_of_getElem? hx)).2)
              have c2 := fun w h => Lib.hid (sEnds m c p rs y w h H.out.2.2.1 hm12 (hix.out y (List.mem_of_getElem? hy)).1 (hix.out y (List.mem_of_getElem? hy)).2)
              have HX := Lib.hid (And.intro hx hy)
              have hsi : ((l : Int) + 1).tmod (j : Int) = (s : Int) := by rw [← hs1]; rfl
              have HS1 := Lib.hid hs1
              clear hx hy hs1
              clear e1
              go_upto_region 12 with ((go_at_call 55; (with_reducible refine ((c1 _ ?_).out).mono ?_); (focus ((exact hs.out.1); done)); rintro e wx ⟨rfl, hb_wx⟩; have hs_wx := hb_wx.size; (try simp at hs_wx)))
              obtain ⟨B'', o'', y', e, hy', hB1', e1⟩ := (hs.out.2.below hb_wx).at (i := s) (by have := H.out.2.2.2; omega)
              cases e
              obtain rfl : y = y' := by have := HX.out.2; rw [hy'] at this; cases this; rfl
              have HRx := Lib.hid (hs.out.1.below hb_wx)
              have hBx : Below w.heap.size w wx := hB.trans (hb_wx.mono hB.size)
              have hbrx : Below wa.heap.size wa wx := hbr.trans (hb_wx.mono hbs)
              have hsx := hbrx.size
              clear hy' hB1 hs hB hbr hbs c1
              obtain ⟨ex, hex⟩ : ∃ v, en rs x = v := ⟨_, rfl⟩
              obtain ⟨sy, hsy⟩ : ∃ v, bg rs y = v := ⟨_, rfl⟩
              have HE := Lib.hid (And.intro hex hsy)
              rw [hex]
              rw [hsy] at c2
              clear hex hsy
              by_cases hxy : ex = sy
              · subst hxy
                go_wp2_with ((go_at_call 55; (with_reducible refine ((c2 _ ?_).out).mono ?_); (focus ((exact HRx.out); done)); rintro e wy ⟨rfl, hb_wy⟩; have hs_wy := hb_wy.size; (try simp at hs_wy)))
                go_roundw
                case rel => exact ⟨l + 1, by omega, by go_num, fun i x' y' hi hx' hy' => (by
                  by_cases e : i = l
                  · subst e
                    rw [HX.out.1] at hx'; cases hx'
                    rw [H.out.2.2.2, HS1.out, HX.out.2] at hy'; cases hy'
                    rw [HE.out.1, HE.out.2]
                  · exact HC.out i x' y' (by omega) hx' hy'), hbrx.trans (hb_wy.mono hsx)⟩
                case measure => simp [intOf]; omega
              · have hxy' : (ex == sy) = false := by simpa using hxy
                have HF : Hid (false = b) := Lib.hid (by
                  rw [← HB.out.1]
                  exact (isL_false.2 (fun ht => hxy (by rw [← HE.out.1, ← HE.out.2]; exact (loop_at (by have := ht.one; omega)).1 ht.loop l x y HX.out.1 (by rw [H.out.2.2.2, HS1.out]; exact HX.out.2)))).symm)
                go_wp2_with ((go_at_call 55; (with_reducible refine ((c2 _ ?_).out).mono ?_); (focus ((exact HRx.out); done)); rintro e wy ⟨rfl, hb_wy⟩; have hs_wy := hb_wy.size; (try simp at hs_wy)))
                go_ret
                exact ⟨ret_bool HF.out, hBx.trans (hb_wy.mono hBx.size)⟩
            · have e : l = j := by omega
              subst e
              have HF : Hid (true = b) := Lib.hid (by
                rw [← HB.out.1]
                exact (isL_true.2 ⟨HB.out.2, by have := H.out.2.2.2; omega, by have := H.out.2.2.2; omega, HR.out, (loop_at (by have := H.out.2.2.2; omega)).2 (fun i x y hx hy => HC.out i x y (by have := (List.getElem?_eq_some_iff.1 hx).1; have := H.out.2.2.2; omega) hx hy)⟩).symm)
              clear hbr
              go_wp2_with fail
              go_ret
              exact ⟨ret_bool HF.out, hB⟩
    · have ci := fun w => Lib.hid (nIn (k : Int) 1 12 false w (by simp; omega))
      obtain rfl : b = false := by rw [← hb]; exact isL_false.2 (fun ht => hkk ⟨by have := ht.one; omega, by have := ht.most; omega⟩)
      clear h hq hm hk hb hv
      go_enter Try.func17, Try.ntmps17
      go_wp2_with (first | (go_at_call 53; (with_reducible refine ((c1 _ ?_).out).mono ?_); (focus ((exact H.out.1); done)); rintro e wa ⟨rfl, hb_wa⟩; have hs_wa := hb_wa.size; (try simp at hs_wa)) | (go_at_call 54; (with_reducible refine ((ci _).out).mono ?_); rintro e w' ⟨rfl, rfl⟩))
      go_ret
      exact ⟨rfl, (by repeat (first | assumption | exact Below.refl _ _ | (refine below_chain ?_ (by assumption) (by first | omega | (simp <;> omega) | simp)) | (refine Below.alloc ?_ (by first | omega | (simp <;> omega) | simp) _) | (apply below_drewN) | (apply below_drew) | (refine Below.setCell ?_ (by first | omega | (simp <;> omega) | simp) _)))⟩
theorem isL_sums {n : Int} {rs : List Rn} (hn : nOk n rs = true) : ∀ r ∈ rs, -100000 ≤ r.s ∧ r.s ≤ 100000 := fun r hr => by
  obtain ⟨i, hi⟩ := List.getElem?_of_mem hr
  obtain ⟨-, -, -, -, -, a, b, -, -⟩ := rOk_true ((nOk_true hn).2.2.2 i r hi)
  exact ⟨a, b⟩
set_option maxHeartbeats 1000000 in
theorem sLoopError_yes (n : Int) (m k : Nat) (p q : Option Addr) (c d : Nat) (rs : List Rn) (L : List Int) (w : World) (h : Runs w p rs) (hq : Ints w q L) (hm : rs.length = m) (hk : L.length = k) (hb : isL n rs L = true) :
    Calls Try.prog 45 #[.int .i64 n, .slice p m c, .slice q k d] w fun e w' => e = .returned (.tuple #[.int .i64 (lsum rs L), .bool true]) ∧ Below w.heap.size w w' := by
  have hL := isL_true.1 hb
  have hm12 : m ≤ 12 := by have := (nOk_true hL.ok).2.2.1; omega
  have hk12 : k ≤ 12 := by have := hL.most; omega
  have c1 := fun w h hq => Lib.hid (sLoopIs n m k p q c d rs L true w h hq hm hk (by omega) (by omega) hb)
  have c2 := fun w h hq => Lib.hid (sErr m c k d p q rs L w h hq hm hk hk12 hm12 (fun z hz => ⟨(hL.run hz).1, (hL.run hz).2.1⟩) (isL_sums hL.ok))
  have H := Lib.hid (And.intro h hq)
  clear h hq hm hk hb hL
  go_enter Try.func45, Try.ntmps45
  go_wp2_with (first | (go_at_call 17; (with_reducible refine ((c1 _ ?_ ?_).out).mono ?_); (focus ((exact H.out.1); done)); (focus ((exact H.out.2); done)); rintro e wa ⟨rfl, hb_wa⟩; have hs_wa := hb_wa.size; (try simp at hs_wa)) | (go_at_call 73; (with_reducible refine ((c2 _ ?_ ?_).out).mono ?_); (focus (exact H.out.1.below hb_wa; done)); (focus (exact H.out.2.below hb_wa; done)); rintro e we ⟨rfl, rfl⟩))
  refine bodyPost_ret (v := .tuple #[.int .i64 (lsum rs L), .bool true]) (by simp [results, Try.results45, go_sem]) rfl ⟨rfl, hb_wa⟩
set_option maxHeartbeats 1000000 in
theorem sLoopError_no (n : Int) (m k : Nat) (p q : Option Addr) (c d : Nat) (rs : List Rn) (L : List Int) (w : World) (h : Runs w p rs) (hq : Ints w q L) (hm : rs.length = m) (hk : L.length = k) (hl : m ≤ 4000000000000000000) (hl2 : k ≤ 4000000000000000000) (hb : isL n rs L = false) :
    Calls Try.prog 45 #[.int .i64 n, .slice p m c, .slice q k d] w fun e w' => e = .returned (.tuple #[.int .i64 0, .bool false]) ∧ Below w.heap.size w w' := by
  have c1 := fun w h hq => Lib.hid (sLoopIs n m k p q c d rs L false w h hq hm hk hl hl2 hb)
  have H := Lib.hid (And.intro h hq)
  clear h hq hm hk hb
  go_enter Try.func45, Try.ntmps45
  go_wp2_with ((go_at_call 17; (with_reducible refine ((c1 _ ?_ ?_).out).mono ?_); (focus ((exact H.out.1); done)); (focus ((exact H.out.2); done)); rintro e wa ⟨rfl, hb_wa⟩; have hs_wa := hb_wa.size; (try simp at hs_wa)))
  refine bodyPost_ret (v := .tuple #[.int .i64 0, .bool false]) (by simp [results, Try.results45, go_sem]) rfl ⟨rfl, hb_wa⟩
theorem back_at {L : List Int} {t j : Nat} {z : Int} (h : L[t]? = some z) (hj : t + 1 + j = L.length) : (back L).take (j + 1) = (back L).take j ++ [-z] := by
  refine take_succ_of ?_
  have ht := (List.getElem?_eq_some_iff.1 h).1
  unfold back
  rw [List.getElem?_reverse (by simp; omega), List.getElem?_map, List.length_map, show L.length - 1 - j = t by omega, h]
  rfl
set_option maxHeartbeats 2000000 in
theorem sLoopBack_yes (n : Int) (m k : Nat) (p q : Option Addr) (c d : Nat) (rs : List Rn) (L : List Int) (w : World) (h : Runs w p rs) (hq : Ints w q L) (hm : rs.length = m) (hk : L.length = k) (hb : isL n rs L = true) :
    Calls Try.prog 23 #[.int .i64 n, .slice p m c, .slice q k d] w fun e w' => ∃ g cap, e = .returned (.tuple #[.slice (some ⟨g, 0, none⟩) k cap, .bool true]) ∧ w.heap.size ≤ g ∧ Own w' g 3 1 k cap (back L) ∧ Below w.heap.size w w' := by
  have hL := isL_true.1 hb
  have hm12 : m ≤ 12 := by have := (nOk_true hL.ok).2.2.1; omega
  have hk12 : k ≤ 12 := by have := hL.most; omega
  have hz : Hid (∀ z ∈ L, -12 ≤ z ∧ z ≤ 12) := Lib.hid (fun z hz => by have := hL.rng z hz; omega)
  have c1 := fun w h hq => Lib.hid (sLoopIs n m k p q c d rs L true w h hq hm hk (by omega) (by omega) hb)
  have H := Lib.hid (And.intro h (And.intro hq hk))
  have HE := Lib.hid (Own.empty w 3 1)
  clear h hq hm hk hb hL
  go_enter Try.func23, Try.ntmps23
  go_wp2_with ((go_at_call 17; (with_reducible refine ((c1 _ ?_ ?_).out).mono ?_); (focus ((exact H.out.1.alloc _); done)); (focus ((exact H.out.2.1.alloc _); done)); rintro e wa ⟨rfl, hb_wa⟩; have hs_wa := hb_wa.size; (try simp at hs_wa)))
  have HO0 := Lib.hid (HE.out.below (w' := wa) (by repeat (first | assumption | exact Below.refl _ _ | (refine below_chain ?_ (by assumption) (by first | omega | (simp <;> omega) | simp)) | (refine Below.alloc ?_ (by first | omega | (simp <;> omega) | simp) _) | (apply below_drewN) | (apply below_drew) | (refine Below.setCell ?_ (by first | omega | (simp <;> omega) | simp) _))))
  have hB : Below w.heap.size w wa := (by repeat (first | assumption | exact Below.refl _ _ | (refine below_chain ?_ (by assumption) (by first | omega | (simp <;> omega) | simp)) | (refine Below.alloc ?_ (by first | omega | (simp <;> omega) | simp) _) | (apply below_drewN) | (apply below_drew) | (refine Below.setCell ?_ (by first | omega | (simp <;> omega) | simp) _)))
  clear c1 HE hb_wa
  go_loopw [8, 9] (fun o i wr => ∃ (j t g cap : Nat) (v : Int), v + 1 = t ∧ t + j = k ∧ i = .int .i64 v ∧ o = .slice (some ⟨g, 0, none⟩) j cap ∧ w.heap.size ≤ g ∧ Own wr g 3 1 j cap ((back L).take j) ∧ Below w.heap.size w wr) (fun _ i _ => (intOf i + 1).toNat)
  case atStart => exact ⟨0, k, w.heap.size, 0, (k : Int) - 1, by omega, by omega, by go_num, rfl, Nat.le_refl _, HO0.out, hB⟩
  case round =>
    obtain ⟨j, t, g, cap, v, hv, htj, rfl, rfl, hg, how, hbr⟩ := hrel
    have hbs := hbr.size
    have hlo := how.lt
    have HO := Lib.hid (And.intro how hbr)
    clear how hbr
    cases t with
    | zero =>
      obtain rfl : v = -1 := by omega
      obtain rfl : j = k := by omega
      go_wp2_with fail
      refine bodyPost_ret (v := .tuple #[.slice (some ⟨g, 0, none⟩) j cap, .bool true]) (by simp [results, Try.results23, go_sem]) rfl ⟨g, cap, rfl, hg, by have := HO.out.1; rwa [List.take_of_length_le (by rw [back_len]; exact Nat.le_of_eq H.out.2.2)] at this, HO.out.2⟩
    | succ t =>
      obtain rfl : v = (t : Int) := by omega
      have htk : t < k := by omega
      obtain ⟨B, o, z, rfl, hz', hB', e0⟩ := (H.out.2.1.below HO.out.2).at (i := t) (by have := H.out.2.2; omega)
      have hzz := hz.out z (List.mem_of_getElem? hz')
      obtain ⟨z0, z1⟩ := hzz
      have HA := Lib.hid (back_at (j := j) hz' (by have := H.out.2.2; omega))
      clear hz' hv
      go_wp2_with (at_builtin; refine wp_append _ rfl _ _ 24 rfl 3 _ 1 8 Try.underlying24 info_int rfl (by decide) (by decide) g j cap _ rfl (HO.out.1.alloc _) _ _ _ [-z] rfl rfl (one_cell _ _ _) (by omega) ?_; intro g' cap' w' hown hgr hloc hsz; have HN := Lib.hid (And.intro hown (And.intro hgr hloc)); clear hown hgr hloc)
      go_roundw
      case rel =>
        obtain ⟨hown, hgr, hloc⟩ := HN.out
        have hg' : w.heap.size ≤ g' := by
          rcases hloc with rfl | rfl
          · exact hg
          · simp; omega
        exact ⟨j + 1, t, g', cap', (t : Int) - 1, by omega, by omega, by go_num, rfl, hg', by rw [HA.out]; exact hown, below_gr (HO.out.2.alloc (by omega) _) hgr hg (by simp; omega)⟩
      case measure => simp [intOf]; try omega
set_option maxHeartbeats 1000000 in
theorem sLoopBack_no (n : Int) (m k : Nat) (p q : Option Addr) (c d : Nat) (rs : List Rn) (L : List Int) (w : World) (h : Runs w p rs) (hq : Ints w q L) (hm : rs.length = m) (hk : L.length = k) (hl : m ≤ 4000000000000000000) (hl2 : k ≤ 4000000000000000000) (hb : isL n rs L = false) :
    Calls Try.prog 23 #[.int .i64 n, .slice p m c, .slice q k d] w fun e w' => (∃ g, e = .returned (.tuple #[.slice (some ⟨g, 0, none⟩) 0 0, .bool false])) ∧ Below w.heap.size w w' := by
  have c1 := fun w h hq => Lib.hid (sLoopIs n m k p q c d rs L false w h hq hm hk hl hl2 hb)
  have H := Lib.hid (And.intro h hq)
  clear h hq hm hk hb
  go_enter Try.func23, Try.ntmps23
  go_wp2_with ((go_at_call 17; (with_reducible refine ((c1 _ ?_ ?_).out).mono ?_); (focus ((exact H.out.1.alloc _); done)); (focus ((exact H.out.2.alloc _); done)); rintro e wa ⟨rfl, hb_wa⟩; have hs_wa := hb_wa.size; (try simp at hs_wa)))
  refine bodyPost_ret (v := .tuple #[.slice (some ⟨w.heap.size, 0, none⟩) 0 0, .bool false]) (by simp [results, Try.results23, go_sem]) rfl ⟨⟨_, rfl⟩, (by repeat (first | assumption | exact Below.refl _ _ | (refine below_chain ?_ (by assumption) (by first | omega | (simp <;> omega) | simp)) | (refine Below.alloc ?_ (by first | omega | (simp <;> omega) | simp) _) | (apply below_drewN) | (apply below_drew) | (refine Below.setCell ?_ (by first | omega | (simp <;> omega) | simp) _)))⟩
end Go.Proofs.Ytimghdffmdcheaa
namespace Go.Proofs.Ytimghdffmdcheaa
open Go.RowKit
set_option linter.unusedVariables false

section
variable {N : Nat} {rs : List Rn} {T P : List Int} {s a b z last : Int}
theorem way_ix (h : IsTree N rs T) (hb : ∃ L, Trail rs T a L b) {y : Int} {M : List Int} (e : wayT rs T a b = y :: M) : ix y ∈ T ∧ bg rs y = a ∧ ∀ y' M', M = y' :: M' → ix y' ≠ ix y := by
  have hw := wayT_is hb
  rw [e] at hw
  obtain ⟨q1, q2, q3, q4⟩ := trail_cons.1 hw
  exact ⟨q1, q2, fun y' M' e' => q4 y' (by rw [e']; simp)⟩
theorem way_self (h : IsTree N rs T) : wayT rs T a a = [] := wayT_of h (trail_nil.2 rfl)
/-- the ends of a run of a tree differ -/
theorem tree_ends (h : IsTree N rs T) (hz : ix z ∈ T) : bg rs z ≠ en rs z := fun e => by
  have := trail_closed h (L := [z]) (a := bg rs z) (by have := trail_one (rs := rs) hz; rwa [← e] at this)
  cases this
end
/-- what is answered: the way, if it does not begin with the run that led here -/
def WayAt (w : World) (W : List Int) (last : Int) (e : Ending) (w' : World) : Prop :=
  ((∃ y M, W = y :: M ∧ ix y = last) ∧ (∃ g, e = .returned (.tuple #[.slice (some ⟨g, 0, none⟩) 0 0, .bool false])) ∨
   (∀ y M, W = y :: M → ix y ≠ last) ∧ ∃ g cap l, e = .returned (.tuple #[.slice (some ⟨g, 0, none⟩) l cap, .bool true]) ∧ W.length = l ∧ w.heap.size ≤ g ∧ Own w' g 3 1 l cap W) ∧ Below w.heap.size w w'

set_option maxHeartbeats 4000000 in
theorem sWay (N m k c d : Nat) (p q : Option Addr) (rs : List Rn) (T : List Int) (goal : Nat) (hm : rs.length = m) (hk : T.length = k) (ht : IsTree N rs T) (hg : goal < N) : ∀ (f : Nat) (P : List Int) (s : Int) (a : Nat) (last : Int) (w : World), Trail rs T s P a → P.length + f = k → ((P = [] ∧ last = -1) ∨ ∃ Q y, P = Q ++ [y] ∧ ix y = last) → a < N → Runs w p rs → Ints w q T →
    Calls Try.prog 66 #[.slice p m c, .slice q k d, .int .i64 a, .int .i64 goal, .int .i64 last] w fun e w' => WayAt w (wayT rs T a goal) last e w' := by
  have hN6 := (nOk_true ht.ok).2.1
  have hm12 : m ≤ 12 := by have := (nOk_true ht.ok).2.2.1; omega
  have hk5 : k ≤ 5 := by have := ht.len; omega
  have HM := Lib.hid (And.intro hm (And.intro hk ht))
  clear hm hk ht
  intro f
  induction f using Nat.strongRecOn with
  | _ f ih =>
  intro P s a last w hP hPf hlast ha hr hq
  have ht := HM.out.2.2
  have hex : ∃ L, Trail rs T a L goal := trail_some ht ha hg
  have H := Lib.hid (And.intro hr hq)
  clear hr hq
  by_cases hag : a = goal
  · subst hag
    have hW := way_self (a := (a : Int)) ht
    rw [hW]
    clear ih hP hPf hlast hex hW ht
    go_enter Try.func66, Try.ntmps66
    go_wp2_with fail
    refine bodyPost_ret (v := .tuple #[.slice (some ⟨w.heap.size, 0, none⟩) 0 0, .bool true]) (by simp [results, Try.results66, go_sem]) rfl ⟨.inr ⟨fun y M e => (by cases e), w.heap.size, 0, 0, rfl, rfl, Nat.le_refl _, Own.empty _ _ _⟩, (by repeat (first | assumption | exact Below.refl _ _ | (refine below_chain ?_ (by assumption) (by first | omega | (simp <;> omega) | simp)) | (refine Below.alloc ?_ (by first | omega | (simp <;> omega) | simp) _) | (apply below_drewN) | (apply below_drew) | (refine Below.setCell ?_ (by first | omega | (simp <;> omega) | simp) _)))⟩
  · obtain ⟨W, hW⟩ : ∃ W, wayT rs T a goal = W := ⟨_, rfl⟩
    have HP := Lib.hid (And.intro hP (And.intro hPf (And.intro hlast (And.intro hex hW))))
    have hag' : ((a : Int) == (goal : Int)) = false := by simp; omega
    rw [hW]
    have IH := Lib.hid ih
    clear ih hP hPf hlast hex hW
    go_enter Try.func66, Try.ntmps66
    go_wp2_with fail
    clear hag'
    go_loopw [12] (fun i wr => ∃ j : Nat, j ≤ k ∧ i = .int .i64 j ∧ (∀ (i : Nat) (x : Int), i < j → T[i]? = some x → x ≠ last → ∀ y M, W = y :: M → ix y ≠ x) ∧ Below w.heap.size w wr) (fun i _ => k - (intOf i).toNat)
    case atStart => exact ⟨0, Nat.zero_le _, rfl, fun i x hi => by omega, Below.refl _ _⟩
    case round =>
      obtain ⟨j, hj, rfl, hno, hbr⟩ := hrel
      have hbs := hbr.size
      have HO := Lib.hid (And.intro hno hbr)
      clear hno hbr
      by_cases hlt : j < k
      · obtain ⟨B, o, x, rfl, hx, hB, e0⟩ := (H.out.2.below HO.out.2).at (i := j) (by have := HM.out.2.1; omega)
        obtain ⟨x0, x1⟩ := ht.asc.rng x (List.mem_of_getElem? hx)
        obtain ⟨u, rfl⟩ : ∃ u : Nat, x = (u : Int) := ⟨x.toNat, by omega⟩
        have hum : u < m := by have := HM.out.1; omega
        have huT := List.mem_of_getElem? hx
        have next : (∀ y M, W = y :: M → (u : Int) ≠ last → ix y ≠ u) → ∀ (i : Nat) (x : Int), i < j + 1 → T[i]? = some x → x ≠ last → ∀ y M, W = y :: M → ix y ≠ x := fun hh i x hi hxi hxl y M e => by
          by_cases hij : i = j
          · subst hij; rw [hx] at hxi; cases hxi; exact hh y M e hxl
          · exact HO.out.1 i x (by omega) hxi hxl y M e
        have NX := Lib.hid next
        have hxj := Lib.hid hx
        clear next hx x0 x1
        by_cases hul : (u : Int) = last
        · have hul' : ((u : Int) == last) = true := by simpa using hul
          go_wp2_with fail
          go_roundw
          case rel => exact ⟨j + 1, by omega, by go_num, NX.out (fun _ _ _ h => absurd hul h), HO.out.2⟩
          case measure => simp [intOf]; omega
        · have hul' : ((u : Int) == last) = false := by simpa using hul
          obtain ⟨D, o', r, rfl, hr, hD, r0, r1, r2, r3⟩ := (H.out.1.below HO.out.2).at (i := u) (by have := HM.out.1; omega)
          have er' : runOf rs (u : Int) = r := by unfold runOf; simp [hr]
          have hum' : (u : Int) < (m : Int) := by omega
          obtain ⟨q0, q1, q2, q3⟩ := nOk_ends ht.ok r (List.mem_of_getElem? hr)
          -- the recursive call from the end of a run that begins here
          have go : ∀ (z : Int) (v : Nat), ix z = u → bg rs z = a → en rs z = v → v < N → ∀ w', Below w.heap.size w w' → Hid (Calls Try.prog 66 #[.slice (some ⟨D, o', none⟩) m c, .slice (some ⟨B, o, none⟩) k d, .int .i64 v, .int .i64 goal, .int .i64 u] w' fun e w'' => WayAt w' (wayT rs T v goal) u e w'') := fun z v hz hb he hv w' hbw => by
            obtain ⟨hP, hPf, hlast, hex, hW⟩ := HP.out
            have hon : Trail rs T s (P ++ [z]) v := by
              rw [← he]
              refine trail_on ht (by rw [hb]; exact hP) (by rw [hz]; exact huT) (fun y Q e => ?_)
              rcases hlast with ⟨e1, -⟩ | ⟨Q', y', e1, e2⟩
              · rw [e1] at e; simp at e
              · rw [e1] at e
                obtain ⟨-, e3⟩ := List.append_inj' e rfl
                cases e3
                rw [e2, hz]; exact fun h => hul h.symm
            have hlen := trail_len hon
            rw [List.length_append, List.length_singleton, HM.out.2.1] at hlen
            refine Lib.hid (IH.out (f - 1) (by omega) (P ++ [z]) s v u w' hon (by rw [List.length_append, List.length_singleton]; omega) (.inr ⟨P, z, rfl, hz⟩) hv (H.out.1.below hbw) (H.out.2.below hbw))
          have GO := Lib.hid go
          clear go
          by_cases hta : r.t = a
          · have hta' : (r.t == (a : Int)) = true := by simpa using hta
            have hfa' : (r.f == (a : Int)) = false := by
              have hd := tree_ends (z := (u : Int) + 1) ht (by rw [ix_up]; exact huT)
              rw [bg_up, en_up, er'] at hd
              simp; intro e; exact hd (e.trans hta.symm)
            have hta2 : (r.t != (a : Int)) = false := by simpa using hta
            have hfa2 : (r.f != (a : Int)) = true := by simpa using hfa'
            obtain ⟨v, hv⟩ : ∃ v : Nat, r.f = (v : Int) := ⟨(r.f).toNat, by omega⟩
            have hz : ix (-((u : Int) + 1)) = u := by unfold ix; omega
            have hb : bg rs (-((u : Int) + 1)) = a := by unfold bg; rw [if_pos (by omega), hz, er']; exact hta
            have he : en rs (-((u : Int) + 1)) = v := by unfold en; rw [if_pos (by omega), hz, er']; exact hv
            have hvN : v < N := by omega
            have hW := HP.out.2.2.2.2
            have hd := tree_ends (z := -((u : Int) + 1)) ht (by rw [hz]; exact huT)
            have hz0 : (-((u : Int) + 1) : Int) ≠ 0 := by omega
            rcases way_head (z := -((u : Int) + 1)) (b := (goal : Int)) ht (by rw [hz]; exact huT) (by rw [hb]; exact HP.out.2.2.2.1) with hh | ⟨⟨M, hM⟩, hnot⟩
            · rw [hb, hW, he] at hh
              have cF := fun w' hbw => Lib.hid ((GO.out (-((u : Int) + 1)) v hz hb he hvN w' hbw).out.mono (R' := fun e w'' => ∃ g cap l, e = .returned (.tuple #[.slice (some ⟨g, 0, none⟩) l cap, .bool true]) ∧ (wayT rs T v goal).length = l ∧ l ≤ 5 ∧ w'.heap.size ≤ g ∧ Own w'' g 3 1 l cap (wayT rs T v goal) ∧ Below w'.heap.size w' w'') (fun e w'' hr => by
                obtain ⟨h1, h2⟩ := hr
                rcases h1 with ⟨⟨y, M, e1, e2⟩, -⟩ | ⟨-, g, cap, l, h3, h4, h5, h6⟩
                · exact absurd e2 (by rw [← hz]; exact (way_ix ht HP.out.2.2.2.1 (hW.trans hh)).2.2 y M e1)
                · refine ⟨g, cap, l, h3, h4, ?_, h5, h6, h2⟩
                  rw [← h4]
                  have := trail_len (wayT_is (trail_some ht hvN hg))
                  have := HM.out.2.1
                  omega))
              rw [← hv] at cF hh
              have HH := Lib.hid hh
              have HNZ : Hid (∀ y M, W = y :: M → ix y ≠ last) := Lib.hid (fun y M e => by rw [hh] at e; cases e; rw [hz]; exact hul)
              clear hh hv hz hb he hW hd hz0 GO er' hr huT
              go_wp2_with (first | (go_at_call 66; (with_reducible refine ((cF _ ?_).out).mono ?_); (focus (exact HO.out.2.alloc (by omega) _; done)); rintro e wy ⟨g, cap, l, rfl, hl, hl5, hgy, how, hb_wy⟩; have hs_wy := hb_wy.size; (try simp at hs_wy); have HW := Lib.hid (And.intro hl how); clear hl how) | (at_builtin; refine wp_append _ rfl _ _ 24 rfl 3 _ 1 8 Try.underlying24 info_int rfl (by decide) (by decide) _ 1 1 [-((u : Int) + 1)] rfl (Own.lit _ _ [-((u : Int) + 1)] (by simp [maxLen])) _ _ _ (wayT rs T r.f goal) rfl (by have := HW.out.1; omega) (fun j z hz => by rw [Go.WideShapes.add_plain, Nat.zero_add]; exact (HW.out.2.alloc _).cells hz) (by omega) ?_; intro g' cap' w' hown hgr hloc hsz; have HN := Lib.hid (And.intro hown (And.intro hgr hloc)); clear hown hgr hloc))
              obtain ⟨hown, hgr, hloc⟩ := HN.out
              have hBy : Below w.heap.size w wy := (HO.out.2.alloc (by omega) _).trans (hb_wy.mono (by simp; omega))
              have hg' : w.heap.size ≤ g' := by
                rcases hloc with rfl | rfl
                · have := hBy.size; omega
                · have := hBy.size; simp; omega
              refine bodyPost_ret (v := .tuple #[.slice (some ⟨g', 0, none⟩) (1 + l) cap', .bool true]) (by simp [results, Try.results66, go_sem]) rfl ⟨.inr ⟨HNZ.out, g', cap', 1 + l, rfl, by rw [HH.out, List.length_cons, HW.out.1]; omega, hg', by rw [HH.out]; exact hown⟩, below_gr (hBy.alloc hBy.size _) hgr hBy.size (by have := hBy.size; simp; omega)⟩
            · rw [he] at hM
              have cN := fun w' hbw => Lib.hid ((GO.out (-((u : Int) + 1)) v hz hb he hvN w' hbw).out.mono (R' := fun e w'' => (∃ g, e = .returned (.tuple #[.slice (some ⟨g, 0, none⟩) 0 0, .bool false])) ∧ Below w'.heap.size w' w'') (fun e w'' hr => by
                obtain ⟨h1, h2⟩ := hr
                rcases h1 with ⟨-, h3⟩ | ⟨h3, -⟩
                · exact ⟨h3, h2⟩
                · exact absurd (by rw [ix_neg]; exact hz) (h3 _ _ hM)))
              rw [← hv] at cN
              have HNX := Lib.hid (NX.out (fun y M e _ h => by
                have hy := way_ix ht HP.out.2.2.2.1 (hW.trans e)
                rcases ix_same (hz.trans h.symm) with e2 | e2
                · rw [e2] at e; rw [hb, hW] at hnot; exact hnot M e
                · have := hy.2.1
                  rw [e2, bg_neg hz0] at this
                  exact hd (by rw [hb, this])))
              clear hv hz hb he hW hd hz0 hM hnot GO er' hr huT
              go_wp2_with (go_at_call 66; (with_reducible refine ((cN _ ?_).out).mono ?_); (focus (exact HO.out.2.alloc (by omega) _; done)); rintro e wy ⟨⟨g, rfl⟩, hb_wy⟩; have hs_wy := hb_wy.size; (try simp at hs_wy))
              go_roundw
              case rel => exact ⟨j + 1, by omega, by go_num, HNX.out, (HO.out.2.alloc (by omega) _).trans (hb_wy.mono (by simp; omega))⟩
              case measure => simp [intOf]; omega
          · have hta' : (r.t == (a : Int)) = false := by simpa using hta
            have hta2 : (r.t != (a : Int)) = true := by simpa using hta
            by_cases hfa : r.f = a
            · have hfa' : (r.f == (a : Int)) = true := by simpa using hfa
              have hfa2 : (r.f != (a : Int)) = false := by simpa using hfa
              obtain ⟨v, hv⟩ : ∃ v : Nat, r.t = (v : Int) := ⟨(r.t).toNat, by omega⟩
              have hz : ix ((u : Int) + 1) = u := by unfold ix; omega
              have hb : bg rs ((u : Int) + 1) = a := by unfold bg; rw [if_neg (by omega), hz, er']; exact hfa
              have he : en rs ((u : Int) + 1) = v := by unfold en; rw [if_neg (by omega), hz, er']; exact hv
              have hvN : v < N := by omega
              have hW := HP.out.2.2.2.2
              have hd := tree_ends (z := (u : Int) + 1) ht (by rw [hz]; exact huT)
              have hz0 : ((u : Int) + 1 : Int) ≠ 0 := by omega
              rcases way_head (z := (u : Int) + 1) (b := (goal : Int)) ht (by rw [hz]; exact huT) (by rw [hb]; exact HP.out.2.2.2.1) with hh | ⟨⟨M, hM⟩, hnot⟩
              · rw [hb, hW, he] at hh
                have cF := fun w' hbw => Lib.hid ((GO.out ((u : Int) + 1) v hz hb he hvN w' hbw).out.mono (R' := fun e w'' => ∃ g cap l, e = .returned (.tuple #[.slice (some ⟨g, 0, none⟩) l cap, .bool true]) ∧ (wayT rs T v goal).length = l ∧ l ≤ 5 ∧ w'.heap.size ≤ g ∧ Own w'' g 3 1 l cap (wayT rs T v goal) ∧ Below w'.heap.size w' w'') (fun e w'' hr => by
                  obtain ⟨h1, h2⟩ := hr
                  rcases h1 with ⟨⟨y, M, e1, e2⟩, -⟩ | ⟨-, g, cap, l, h3, h4, h5, h6⟩
                  · exact absurd e2 (by rw [← hz]; exact (way_ix ht HP.out.2.2.2.1 (hW.trans hh)).2.2 y M e1)
                  · refine ⟨g, cap, l, h3, h4, ?_, h5, h6, h2⟩
                    rw [← h4]
                    have := trail_len (wayT_is (trail_some ht hvN hg))
                    have := HM.out.2.1
                    omega))
                rw [← hv] at cF hh
                have HH := Lib.hid hh
                have HNZ : Hid (∀ y M, W = y :: M → ix y ≠ last) := Lib.hid (fun y M e => by rw [hh] at e; cases e; rw [hz]; exact hul)
                clear hh hv hz hb he hW hd hz0 GO er' hr huT
                go_wp2_with (first | (go_at_call 66; (with_reducible refine ((cF _ ?_).out).mono ?_); (focus (exact HO.out.2.alloc (by omega) _; done)); rintro e wy ⟨g, cap, l, rfl, hl, hl5, hgy, how, hb_wy⟩; have hs_wy := hb_wy.size; (try simp at hs_wy); have HW := Lib.hid (And.intro hl how); clear hl how) | (at_builtin; refine wp_append _ rfl _ _ 24 rfl 3 _ 1 8 Try.underlying24 info_int rfl (by decide) (by decide) _ 1 1 [(u : Int) + 1] rfl (Own.lit _ _ [(u : Int) + 1] (by simp [maxLen])) _ _ _ (wayT rs T r.t goal) rfl (by have := HW.out.1; omega) (fun j z hz => by rw [Go.WideShapes.add_plain, Nat.zero_add]; exact (HW.out.2.alloc _).cells hz) (by omega) ?_; intro g' cap' w' hown hgr hloc hsz; have HN := Lib.hid (And.intro hown (And.intro hgr hloc)); clear hown hgr hloc))
                obtain ⟨hown, hgr, hloc⟩ := HN.out
                have hBy : Below w.heap.size w wy := (HO.out.2.alloc (by omega) _).trans (hb_wy.mono (by simp; omega))
                have hg' : w.heap.size ≤ g' := by
                  rcases hloc with rfl | rfl
                  · have := hBy.size; omega
                  · have := hBy.size; simp; omega
                refine bodyPost_ret (v := .tuple #[.slice (some ⟨g', 0, none⟩) (1 + l) cap', .bool true]) (by simp [results, Try.results66, go_sem]) rfl ⟨.inr ⟨HNZ.out, g', cap', 1 + l, rfl, by rw [HH.out, List.length_cons, HW.out.1]; omega, hg', by rw [HH.out]; exact hown⟩, below_gr (hBy.alloc hBy.size _) hgr hBy.size (by have := hBy.size; simp; omega)⟩
              · rw [he] at hM
                have cN := fun w' hbw => Lib.hid ((GO.out ((u : Int) + 1) v hz hb he hvN w' hbw).out.mono (R' := fun e w'' => (∃ g, e = .returned (.tuple #[.slice (some ⟨g, 0, none⟩) 0 0, .bool false])) ∧ Below w'.heap.size w' w'') (fun e w'' hr => by
                  obtain ⟨h1, h2⟩ := hr
                  rcases h1 with ⟨-, h3⟩ | ⟨h3, -⟩
                  · exact ⟨h3, h2⟩
                  · exact absurd (by rw [ix_neg]; exact hz) (h3 _ _ hM)))
                rw [← hv] at cN
                have HNX := Lib.hid (NX.out (fun y M e _ h => by
                  have hy := way_ix ht HP.out.2.2.2.1 (hW.trans e)
                  rcases ix_same (hz.trans h.symm) with e2 | e2
                  · rw [e2] at e; rw [hb, hW] at hnot; exact hnot M e
                  · have := hy.2.1
                    rw [e2, bg_neg hz0] at this
                    exact hd (by rw [hb, this])))
                clear hv hz hb he hW hd hz0 hM hnot GO er' hr huT
                go_wp2_with (go_at_call 66; (with_reducible refine ((cN _ ?_).out).mono ?_); (focus (exact HO.out.2.alloc (by omega) _; done)); rintro e wy ⟨⟨g, rfl⟩, hb_wy⟩; have hs_wy := hb_wy.size; (try simp at hs_wy))
                go_roundw
                case rel => exact ⟨j + 1, by omega, by go_num, HNX.out, (HO.out.2.alloc (by omega) _).trans (hb_wy.mono (by simp; omega))⟩
                case measure => simp [intOf]; omega
            · have hfa' : (r.f == (a : Int)) = false := by simpa using hfa
              have hfa2 : (r.f != (a : Int)) = true := by simpa using hfa
              have HNX := Lib.hid (NX.out (fun y M e _ h => by
                have hy := (way_ix ht HP.out.2.2.2.1 (HP.out.2.2.2.2.trans e)).2.1
                unfold bg at hy
                rw [h, er'] at hy
                split at hy
                · exact hta hy
                · exact hfa hy))
              clear GO er' hr huT
              go_wp2_with fail
              go_roundw
              case rel => exact ⟨j + 1, by omega, by go_num, HNX.out, HO.out.2.alloc (by omega) _⟩
              case measure => simp [intOf]; omega
      · have e : j = k := by omega
        subst e
        obtain ⟨hP, hPf, hlast, hex, hW⟩ := HP.out
        have HF : Hid (∃ y M, W = y :: M ∧ ix y = last) := Lib.hid (by
          cases hWc : W with
          | nil =>
            have := wayT_is hex
            rw [hW, hWc] at this
            have := trail_nil.1 this
            omega
          | cons y M =>
            refine ⟨y, M, rfl, Classical.byContradiction (fun hne => ?_)⟩
            obtain ⟨i, hi⟩ := List.getElem?_of_mem (way_ix ht hex (hW.trans hWc)).1
            have hil := (List.getElem?_eq_some_iff.1 hi).1
            exact HO.out.1 i _ (by have := HM.out.2.1; omega) hi hne y M hWc rfl)
        clear hP hPf hlast hex hW
        go_wp2_with fail
        refine bodyPost_ret (v := .tuple #[.slice (some ⟨wr.heap.size, 0, none⟩) 0 0, .bool false]) (by simp [results, Try.results66, go_sem]) rfl ⟨.inl ⟨HF.out, _, rfl⟩, HO.out.2.alloc (by omega) _⟩
end Go.Proofs.Ytimghdffmdcheaa
