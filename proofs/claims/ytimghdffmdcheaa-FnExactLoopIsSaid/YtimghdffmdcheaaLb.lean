/-
  The reference model's LoopIs, LoopError and LoopBack, for any list.
-/
import Derived.Test.YtimghdffmdcheaaLa
import Derived.Test.YtimghdffmdcheaaNLs
namespace Go.Proofs.Ytimghdffmdcheaa
open Go.RowKit
set_option linter.unusedVariables false

theorem sValid_m {n : Int} {p : Option Addr} {c m : Nat} {rs : List Rn} {b : Bool} (w : World) (hm : rs.length = m) (h : Runs w p rs) (hl : m ≤ 4000000000000000000) (hb : nOk n rs = b) :
    Calls Try.prog 53 #[.int .i64 n, .slice p m c] w fun e w' => e = .returned (.bool b) ∧ Below w.heap.size w w' := by
  subst hm; exact sValid n p c rs b w h hl hb
set_option maxHeartbeats 4000000 in
theorem sLoopIs (n : Int) (m k : Nat) (p q : Option Addr) (c d : Nat) (rs : List Rn) (L : List Int) (b : Bool) (w : World) (h : Runs w p rs) (hq : Ints w q L) (hm : rs.length = m) (hk : L.length = k) (hl : m ≤ 4000000000000000000) (hl2 : k ≤ 4000000000000000000) (hb : isL n rs L = b) :
    Calls Try.prog 17 #[.int .i64 n, .slice p m c, .slice q k d] w fun e w' => e = .returned (.bool b) ∧ Below w.heap.size w w' := by
  obtain ⟨v, hv⟩ : ∃ v, nOk n rs = v := ⟨_, rfl⟩
  have c1 := fun w h => Lib.hid (sValid_m (p := p) (c := c) w hm h hl hv)
  have H := Lib.hid (And.intro h (And.intro hq (And.intro hm hk)))
  cases v
  · obtain rfl : b = false := by rw [← hb]; exact isL_false.2 (fun ht => by rw [ht.ok] at hv; cases hv)
    clear h hq hm hk hb hv
    go_enter Try.func17, Try.ntmps17
    go_wp2_with ((go_at_call 53; (with_reducible refine ((c1 _ ?_).out).mono ?_); (focus ((exact H.out.1); done)); rintro e wa ⟨rfl, hb_wa⟩; have hs_wa := hb_wa.size; (try simp at hs_wa)))
    go_ret
    exact ⟨rfl, (by repeat (first | assumption | exact Below.refl _ _ | (refine below_chain ?_ (by assumption) (by first | omega | (simp <;> omega) | simp)) | (refine Below.alloc ?_ (by first | omega | (simp <;> omega) | simp) _) | (apply below_drewN) | (apply below_drew) | (refine Below.setCell ?_ (by first | omega | (simp <;> omega) | simp) _)))⟩
  · by_cases hkk : 1 ≤ k ∧ k ≤ 12
    · have ci := fun w => Lib.hid (nIn (k : Int) 1 12 true w (by simp; omega))
      have hm12 : m ≤ 12 := by have := (nOk_true hv).2.2.1; omega
      obtain ⟨hk1, hk12⟩ := hkk
      have HB := Lib.hid (And.intro hb hv)
      clear h hq hm hk hb hv
      go_enter Try.func17, Try.ntmps17
      go_wp2_with (first | (go_at_call 53; (with_reducible refine ((c1 _ ?_).out).mono ?_); (focus ((exact H.out.1); done)); rintro e wa ⟨rfl, hb_wa⟩; have hs_wa := hb_wa.size; (try simp at hs_wa)) | (go_at_call 54; (with_reducible refine ((ci _).out).mono ?_); rintro e w' ⟨rfl, rfl⟩))
      clear c1 ci
      go_loopw [7] (fun i wr => ∃ j : Nat, j ≤ k ∧ i = .int .i64 j ∧ (∀ z ∈ L.take j, z ≠ 0 ∧ -(rs.length : Int) ≤ z ∧ z ≤ rs.length) ∧ wa = wr) (fun i _ => k - (intOf i).toNat)
      case atStart => exact ⟨0, Nat.zero_le _, rfl, by simp, rfl⟩
      case round =>
        obtain ⟨j, hj, rfl, hz, rfl⟩ := hrel
        have HZ := Lib.hid hz
        clear hz
        by_cases hlt : j < k
        · obtain ⟨B, o, z, rfl, hz, hB, e0⟩ := (H.out.2.1.below hb_wa).at (i := j) (by have := H.out.2.2.2; omega)
          have hno : ¬ (z ≠ 0 ∧ -(m : Int) ≤ z ∧ z ≤ (m : Int)) → false = b := fun hn => by
            rw [← HB.out.1]; exact (isL_false.2 (fun ht => hn (by have := ht.rng z (List.mem_of_getElem? hz); rw [H.out.2.2.1] at this; exact this))).symm
          have HN := Lib.hid hno
          have HJ := Lib.hid hz
          clear hz hno
          by_cases hin : -(m : Int) ≤ z ∧ z ≤ (m : Int)
          · have ci := fun w => Lib.hid (nIn z (-(m : Int)) m true w (by simpa using hin))
            by_cases hz0 : z = 0
            · subst hz0
              go_wp2_with ((go_at_call 54; (with_reducible refine ((ci _).out).mono ?_); rintro e w' ⟨rfl, rfl⟩))
              go_ret
              exact ⟨ret_bool (HN.out (fun h => h.1 rfl)), hb_wa⟩
            · have hz0' : (z == 0) = false := by simpa using hz0
              have HX : Hid (∀ y ∈ L.take (j + 1), y ≠ 0 ∧ -(rs.length : Int) ≤ y ∧ y ≤ rs.length) := Lib.hid (fun y hy => by
                rw [take_succ_of HJ.out] at hy
                rcases List.mem_append.1 hy with h | h
                · exact HZ.out y h
                · simp at h; subst h; rw [H.out.2.2.1]; exact ⟨hz0, hin⟩)
              clear hin
              go_wp2_with ((go_at_call 54; (with_reducible refine ((ci _).out).mono ?_); rintro e w' ⟨rfl, rfl⟩))
              go_roundw
              case rel => exact ⟨j + 1, by omega, by go_num, HX.out, by first | trivial | rfl⟩
              case measure => simp [intOf]; omega
          · have ci := fun w => Lib.hid (nIn z (-(m : Int)) m false w (by simpa using hin))
            go_wp2_with ((go_at_call 54; (with_reducible refine ((ci _).out).mono ?_); rintro e w' ⟨rfl, rfl⟩))
            go_ret
            exact ⟨ret_bool (HN.out (fun h => hin h.2)), hb_wa⟩
        · have e : j = k := by omega
          subst e
          have HR : Hid (∀ z ∈ L, z ≠ 0 ∧ -(rs.length : Int) ≤ z ∧ z ≤ rs.length) := Lib.hid (by have := HZ.out; rwa [List.take_of_length_le (Nat.le_of_eq H.out.2.2.2)] at this)
          have hix : Hid (∀ z ∈ L, 0 ≤ ix z ∧ ix z < rs.length) := Lib.hid (fun z hz => by have := HR.out z hz; unfold ix; omega)
          clear hlt hj HZ
          go_wp2_with fail
          go_loopw [8] (fun i wr => ∃ l : Nat, l ≤ j ∧ i = .int .i64 l ∧ (∀ (i : Nat) (x y : Int), i < l → L[i]? = some x → L[(i + 1) % L.length]? = some y → en rs x = bg rs y) ∧ Below wa.heap.size wa wr) (fun i _ => j - (intOf i).toNat)
          case atStart => exact ⟨0, Nat.zero_le _, rfl, fun i x y hi => by omega, Below.refl _ _⟩
          case round =>
            obtain ⟨l, hll, rfl, hch, hbr⟩ := hrel
            have hbs := hbr.size
            have hB : Below w.heap.size w wr := hb_wa.trans (hbr.mono (by have := hb_wa.size; omega))
            have HC := Lib.hid hch
            clear hch
            by_cases hlt : l < j
            · have hs : Hid (Runs wr p rs ∧ Ints wr q L) := Lib.hid ⟨(H.out.1.below hb_wa).below hbr, (H.out.2.1.below hb_wa).below hbr⟩
              obtain ⟨B, o, x, rfl, hx, hB0, e0⟩ := hs.out.2.at (i := l) (by have := H.out.2.2.2; omega)
              obtain ⟨s, hs1⟩ : ∃ s, (l + 1) % j = s := ⟨_, rfl⟩
              have hsj : s < j := by rw [← hs1]; exact Nat.mod_lt _ (by omega)
              obtain ⟨B', o', y, e, hy, hB1, e1⟩ := hs.out.2.at (i := s) (by have := H.out.2.2.2; omega)
              cases e
              have c1 := fun w h => Lib.hid (sEnds m c p rs x w h H.out.2.2.1 hm12 (hix.out x (List.mem_of_getElem? hx)).1 (hix.out x (List.mem_of_getElem? hx)).2)
              have c2 := fun w h => Lib.hid (sEnds m c p rs y w h H.out.2.2.1 hm12 (hix.out y (List.mem_of_getElem? hy)).1 (hix.out y (List.mem_of_getElem? hy)).2)
              have HX := Lib.hid (And.intro hx hy)
              have hsi : ((l : Int) + 1).tmod (j : Int) = (s : Int) := by rw [← hs1]; rfl
              have HS1 := Lib.hid hs1
              clear hx hy hs1
              clear e1
              go_upto_region 12 with ((go_at_call 55; (with_reducible refine ((c1 _ ?_).out).mono ?_); (focus ((exact hs.out.1); done)); rintro e wx ⟨rfl, hb_wx⟩; have hs_wx := hb_wx.size; (try simp at hs_wx)))
              obtain ⟨B'', o'', y', e, hy', hB1', e1⟩ := (hs.out.2.below hb_wx).at (i := s) (by have := H.out.2.2.2; omega)
              cases e
              obtain rfl : y = y' := by have := HX.out.2; rw [hy'] at this; cases this; rfl
              have HRx := Lib.hid (hs.out.1.below hb_wx)
              have hBx : Below w.heap.size w wx := hB.trans (hb_wx.mono hB.size)
              have hbrx : Below wa.heap.size wa wx := hbr.trans (hb_wx.mono hbs)
              have hsx := hbrx.size
              clear hy' hB1 hs hB hbr hbs c1
              obtain ⟨ex, hex⟩ : ∃ v, en rs x = v := ⟨_, rfl⟩
              obtain ⟨sy, hsy⟩ : ∃ v, bg rs y = v := ⟨_, rfl⟩
              have HE := Lib.hid (And.intro hex hsy)
              rw [hex]
              rw [hsy] at c2
              clear hex hsy
              by_cases hxy : ex = sy
              · subst hxy
                go_wp2_with ((go_at_call 55; (with_reducible refine ((c2 _ ?_).out).mono ?_); (focus ((exact HRx.out); done)); rintro e wy ⟨rfl, hb_wy⟩; have hs_wy := hb_wy.size; (try simp at hs_wy)))
                go_roundw
                case rel => exact ⟨l + 1, by omega, by go_num, fun i x' y' hi hx' hy' => (by
                  by_cases e : i = l
                  · subst e
                    rw [HX.out.1] at hx'; cases hx'
                    rw [H.out.2.2.2, HS1.out, HX.out.2] at hy'; cases hy'
                    rw [HE.out.1, HE.out.2]
                  · exact HC.out i x' y' (by omega) hx' hy'), hbrx.trans (hb_wy.mono hsx)⟩
                case measure => simp [intOf]; omega
              · have hxy' : (ex == sy) = false := by simpa using hxy
                have HF : Hid (false = b) := Lib.hid (by
                  rw [← HB.out.1]
                  exact (isL_false.2 (fun ht => hxy (by rw [← HE.out.1, ← HE.out.2]; exact (loop_at (by have := ht.one; omega)).1 ht.loop l x y HX.out.1 (by rw [H.out.2.2.2, HS1.out]; exact HX.out.2)))).symm)
                go_wp2_with ((go_at_call 55; (with_reducible refine ((c2 _ ?_).out).mono ?_); (focus ((exact HRx.out); done)); rintro e wy ⟨rfl, hb_wy⟩; have hs_wy := hb_wy.size; (try simp at hs_wy)))
                go_ret
                exact ⟨ret_bool HF.out, hBx.trans (hb_wy.mono hBx.size)⟩
            · have e : l = j := by omega
              subst e
              have HF : Hid (true = b) := Lib.hid (by
                rw [← HB.out.1]
                exact (isL_true.2 ⟨HB.out.2, by have := H.out.2.2.2; omega, by have := H.out.2.2.2; omega, HR.out, (loop_at (by have := H.out.2.2.2; omega)).2 (fun i x y hx hy => HC.out i x y (by have := (List.getElem?_eq_some_iff.1 hx).1; have := H.out.2.2.2; omega) hx hy)⟩).symm)
              clear hbr
              go_wp2_with fail
              go_ret
              exact ⟨ret_bool HF.out, hB⟩
    · have ci := fun w => Lib.hid (nIn (k : Int) 1 12 false w (by simp; omega))
      obtain rfl : b = false := by rw [← hb]; exact isL_false.2 (fun ht => hkk ⟨by have := ht.one; omega, by have := ht.most; omega⟩)
      clear h hq hm hk hb hv
      go_enter Try.func17, Try.ntmps17
      go_wp2_with (first | (go_at_call 53; (with_reducible refine ((c1 _ ?_).out).mono ?_); (focus ((exact H.out.1); done)); rintro e wa ⟨rfl, hb_wa⟩; have hs_wa := hb_wa.size; (try simp at hs_wa)) | (go_at_call 54; (with_reducible refine ((ci _).out).mono ?_); rintro e w' ⟨rfl, rfl⟩))
      go_ret
      exact ⟨rfl, (by repeat (first | assumption | exact Below.refl _ _ | (refine below_chain ?_ (by assumption) (by first | omega | (simp <;> omega) | simp)) | (refine Below.alloc ?_ (by first | omega | (simp <;> omega) | simp) _) | (apply below_drewN) | (apply below_drew) | (refine Below.setCell ?_ (by first | omega | (simp <;> omega) | simp) _)))⟩
theorem isL_sums {n : Int} {rs : List Rn} (hn : nOk n rs = true) : ∀ r ∈ rs, -100000 ≤ r.s ∧ r.s ≤ 100000 := fun r hr => by
  obtain ⟨i, hi⟩ := List.getElem?_of_mem hr
  obtain ⟨-, -, -, -, -, a, b, -, -⟩ := rOk_true ((nOk_true hn).2.2.2 i r hi)
  exact ⟨a, b⟩
set_option maxHeartbeats 1000000 in
theorem sLoopError_yes (n : Int) (m k : Nat) (p q : Option Addr) (c d : Nat) (rs : List Rn) (L : List Int) (w : World) (h : Runs w p rs) (hq : Ints w q L) (hm : rs.length = m) (hk : L.length = k) (hb : isL n rs L = true) :
    Calls Try.prog 45 #[.int .i64 n, .slice p m c, .slice q k d] w fun e w' => e = .returned (.tuple #[.int .i64 (lsum rs L), .bool true]) ∧ Below w.heap.size w w' := by
  have hL := isL_true.1 hb
  have hm12 : m ≤ 12 := by have := (nOk_true hL.ok).2.2.1; omega
  have hk12 : k ≤ 12 := by have := hL.most; omega
  have c1 := fun w h hq => Lib.hid (sLoopIs n m k p q c d rs L true w h hq hm hk (by omega) (by omega) hb)
  have c2 := fun w h hq => Lib.hid (sErr m c k d p q rs L w h hq hm hk hk12 hm12 (fun z hz => ⟨(hL.run hz).1, (hL.run hz).2.1⟩) (isL_sums hL.ok))
  have H := Lib.hid (And.intro h hq)
  clear h hq hm hk hb hL
  go_enter Try.func45, Try.ntmps45
  go_wp2_with (first | (go_at_call 17; (with_reducible refine ((c1 _ ?_ ?_).out).mono ?_); (focus ((exact H.out.1); done)); (focus ((exact H.out.2); done)); rintro e wa ⟨rfl, hb_wa⟩; have hs_wa := hb_wa.size; (try simp at hs_wa)) | (go_at_call 73; (with_reducible refine ((c2 _ ?_ ?_).out).mono ?_); (focus (exact H.out.1.below hb_wa; done)); (focus (exact H.out.2.below hb_wa; done)); rintro e we ⟨rfl, rfl⟩))
  refine bodyPost_ret (v := .tuple #[.int .i64 (lsum rs L), .bool true]) (by simp [results, Try.results45, go_sem]) rfl ⟨rfl, hb_wa⟩
set_option maxHeartbeats 1000000 in
theorem sLoopError_no (n : Int) (m k : Nat) (p q : Option Addr) (c d : Nat) (rs : List Rn) (L : List Int) (w : World) (h : Runs w p rs) (hq : Ints w q L) (hm : rs.length = m) (hk : L.length = k) (hl : m ≤ 4000000000000000000) (hl2 : k ≤ 4000000000000000000) (hb : isL n rs L = false) :
    Calls Try.prog 45 #[.int .i64 n, .slice p m c, .slice q k d] w fun e w' => e = .returned (.tuple #[.int .i64 0, .bool false]) ∧ Below w.heap.size w w' := by
  have c1 := fun w h hq => Lib.hid (sLoopIs n m k p q c d rs L false w h hq hm hk hl hl2 hb)
  have H := Lib.hid (And.intro h hq)
  clear h hq hm hk hb
  go_enter Try.func45, Try.ntmps45
  go_wp2_with ((go_at_call 17; (with_reducible refine ((c1 _ ?_ ?_).out).mono ?_); (focus ((exact H.out.1); done)); (focus ((exact H.out.2); done)); rintro e wa ⟨rfl, hb_wa⟩; have hs_wa := hb_wa.size; (try simp at hs_wa)))
  refine bodyPost_ret (v := .tuple #[.int .i64 0, .bool false]) (by simp [results, Try.results45, go_sem]) rfl ⟨rfl, hb_wa⟩
theorem back_at {L : List Int} {t j : Nat} {z : Int} (h : L[t]? = some z) (hj : t + 1 + j = L.length) : (back L).take (j + 1) = (back L).take j ++ [-z] := by
  refine take_succ_of ?_
  have ht := (List.getElem?_eq_some_iff.1 h).1
  unfold back
  rw [List.getElem?_reverse (by simp; omega), List.getElem?_map, List.length_map, show L.length - 1 - j = t by omega, h]
  rfl
set_option maxHeartbeats 2000000 in
theorem sLoopBack_yes (n : Int) (m k : Nat) (p q : Option Addr) (c d : Nat) (rs : List Rn) (L : List Int) (w : World) (h : Runs w p rs) (hq : Ints w q L) (hm : rs.length = m) (hk : L.length = k) (hb : isL n rs L = true) :
    Calls Try.prog 23 #[.int .i64 n, .slice p m c, .slice q k d] w fun e w' => ∃ g cap, e = .returned (.tuple #[.slice (some ⟨g, 0, none⟩) k cap, .bool true]) ∧ w.heap.size ≤ g ∧ Own w' g 3 1 k cap (back L) ∧ Below w.heap.size w w' := by
  have hL := isL_true.1 hb
  have hm12 : m ≤ 12 := by have := (nOk_true hL.ok).2.2.1; omega
  have hk12 : k ≤ 12 := by have := hL.most; omega
  have hz : Hid (∀ z ∈ L, -12 ≤ z ∧ z ≤ 12) := Lib.hid (fun z hz => by have := hL.rng z hz; omega)
  have c1 := fun w h hq => Lib.hid (sLoopIs n m k p q c d rs L true w h hq hm hk (by omega) (by omega) hb)
  have H := Lib.hid (And.intro h (And.intro hq hk))
  have HE := Lib.hid (Own.empty w 3 1)
  clear h hq hm hk hb hL
  go_enter Try.func23, Try.ntmps23
  go_wp2_with ((go_at_call 17; (with_reducible refine ((c1 _ ?_ ?_).out).mono ?_); (focus ((exact H.out.1.alloc _); done)); (focus ((exact H.out.2.1.alloc _); done)); rintro e wa ⟨rfl, hb_wa⟩; have hs_wa := hb_wa.size; (try simp at hs_wa)))
  have HO0 := Lib.hid (HE.out.below (w' := wa) (by repeat (first | assumption | exact Below.refl _ _ | (refine below_chain ?_ (by assumption) (by first | omega | (simp <;> omega) | simp)) | (refine Below.alloc ?_ (by first | omega | (simp <;> omega) | simp) _) | (apply below_drewN) | (apply below_drew) | (refine Below.setCell ?_ (by first | omega | (simp <;> omega) | simp) _))))
  have hB : Below w.heap.size w wa := (by repeat (first | assumption | exact Below.refl _ _ | (refine below_chain ?_ (by assumption) (by first | omega | (simp <;> omega) | simp)) | (refine Below.alloc ?_ (by first | omega | (simp <;> omega) | simp) _) | (apply below_drewN) | (apply below_drew) | (refine Below.setCell ?_ (by first | omega | (simp <;> omega) | simp) _)))
  clear c1 HE hb_wa
  go_loopw [8, 9] (fun o i wr => ∃ (j t g cap : Nat) (v : Int), v + 1 = t ∧ t + j = k ∧ i = .int .i64 v ∧ o = .slice (some ⟨g, 0, none⟩) j cap ∧ w.heap.size ≤ g ∧ Own wr g 3 1 j cap ((back L).take j) ∧ Below w.heap.size w wr) (fun _ i _ => (intOf i + 1).toNat)
  case atStart => exact ⟨0, k, w.heap.size, 0, (k : Int) - 1, by omega, by omega, by go_num, rfl, Nat.le_refl _, HO0.out, hB⟩
  case round =>
    obtain ⟨j, t, g, cap, v, hv, htj, rfl, rfl, hg, how, hbr⟩ := hrel
    have hbs := hbr.size
    have hlo := how.lt
    have HO := Lib.hid (And.intro how hbr)
    clear how hbr
    cases t with
    | zero =>
      obtain rfl : v = -1 := by omega
      obtain rfl : j = k := by omega
      go_wp2_with fail
      refine bodyPost_ret (v := .tuple #[.slice (some ⟨g, 0, none⟩) j cap, .bool true]) (by simp [results, Try.results23, go_sem]) rfl ⟨g, cap, rfl, hg, by have := HO.out.1; rwa [List.take_of_length_le (by rw [back_len]; exact Nat.le_of_eq H.out.2.2)] at this, HO.out.2⟩
    | succ t =>
      obtain rfl : v = (t : Int) := by omega
      have htk : t < k := by omega
      obtain ⟨B, o, z, rfl, hz', hB', e0⟩ := (H.out.2.1.below HO.out.2).at (i := t) (by have := H.out.2.2; omega)
      have hzz := hz.out z (List.mem_of_getElem? hz')
      obtain ⟨z0, z1⟩ := hzz
      have HA := Lib.hid (back_at (j := j) hz' (by have := H.out.2.2; omega))
      clear hz' hv
      go_wp2_with (at_builtin; refine wp_append _ rfl _ _ 24 rfl 3 _ 1 8 Try.underlying24 info_int rfl (by decide) (by decide) g j cap _ rfl (HO.out.1.alloc _) _ _ _ [-z] rfl rfl (one_cell _ _ _) (by omega) ?_; intro g' cap' w' hown hgr hloc hsz; have HN := Lib.hid (And.intro hown (And.intro hgr hloc)); clear hown hgr hloc)
      go_roundw
      case rel =>
        obtain ⟨hown, hgr, hloc⟩ := HN.out
        have hg' : w.heap.size ≤ g' := by
          rcases hloc with rfl | rfl
          · exact hg
          · simp; omega
        exact ⟨j + 1, t, g', cap', (t : Int) - 1, by omega, by omega, by go_num, rfl, hg', by rw [HA.out]; exact hown, below_gr (HO.out.2.alloc (by omega) _) hgr hg (by simp; omega)⟩
      case measure => simp [intOf]; try omega
set_option maxHeartbeats 1000000 in
theorem sLoopBack_no (n : Int) (m k : Nat) (p q : Option Addr) (c d : Nat) (rs : List Rn) (L : List Int) (w : World) (h : Runs w p rs) (hq : Ints w q L) (hm : rs.length = m) (hk : L.length = k) (hl : m ≤ 4000000000000000000) (hl2 : k ≤ 4000000000000000000) (hb : isL n rs L = false) :
    Calls Try.prog 23 #[.int .i64 n, .slice p m c, .slice q k d] w fun e w' => (∃ g, e = .returned (.tuple #[.slice (some ⟨g, 0, none⟩) 0 0, .bool false])) ∧ Below w.heap.size w w' := by
  have c1 := fun w h hq => Lib.hid (sLoopIs n m k p q c d rs L false w h hq hm hk hl hl2 hb)
  have H := Lib.hid (And.intro h hq)
  clear h hq hm hk hb
  go_enter Try.func23, Try.ntmps23
  go_wp2_with ((go_at_call 17; (with_reducible refine ((c1 _ ?_ ?_).out).mono ?_); (focus ((exact H.out.1.alloc _); done)); (focus ((exact H.out.2.alloc _); done)); rintro e wa ⟨rfl, hb_wa⟩; have hs_wa := hb_wa.size; (try simp at hs_wa)))
  refine bodyPost_ret (v := .tuple #[.slice (some ⟨w.heap.size, 0, none⟩) 0 0, .bool false]) (by simp [results, Try.results23, go_sem]) rfl ⟨⟨_, rfl⟩, (by repeat (first | assumption | exact Below.refl _ _ | (refine below_chain ?_ (by assumption) (by first | omega | (simp <;> omega) | simp)) | (refine Below.alloc ?_ (by first | omega | (simp <;> omega) | simp) _) | (apply below_drewN) | (apply below_drew) | (refine Below.setCell ?_ (by first | omega | (simp <;> omega) | simp) _)))⟩
end Go.Proofs.Ytimghdffmdcheaa
