/-
  What the draw of a net and of numbers that are often a loop gives, by new memory alone.
-/
import Derived.Test.YtimghdffmdcheaaDNg
import Derived.Test.YtimghdffmdcheaaDNd
import Derived.Test.YtimghdffmdcheaaLx
namespace Go.Proofs.Ytimghdffmdcheaa
open Go.RowKit
set_option linter.unusedVariables false

/-- what LoopOf answers, whatever the index -/
theorem sLoopOf_any (N m : Nat) (k : Int) (p : Option Addr) (c : Nat) (rs : List Rn) (w : World) (h : Runs w p rs) (hm : rs.length = m) (hl : m ≤ 100) :
    Calls Try.prog 27 #[.int .i64 N, .slice p m c, .int .i64 k] w fun e w' => (∃ (v : Value) (ok : Bool), e = .returned (.tuple #[v, .bool ok]) ∧ (ok = true → ∃ (g l cap : Nat) (L : List Int), v = .slice (some ⟨g, 0, none⟩) l cap ∧ w.heap.size ≤ g ∧ (0 < l ∧ l ≤ 12) ∧ L.length = l ∧ Own w' g 3 1 l cap L)) ∧ Below w.heap.size w w' := by
  by_cases hb : Beside N rs k
  · obtain ⟨K, rfl⟩ : ∃ K : Nat, k = (K : Int) := ⟨k.toNat, by have := hb.2.1; omega⟩
    refine (sLoopOf_yes N m K p c rs w h hm hb).mono ?_
    rintro e w' ⟨g, l, cap, rfl, hg, ho, hbw⟩
    have hL := loopT_is (k := K) hb.1 (by have := hb.2.1; omega)
    have := ho.len
    exact ⟨⟨_, true, rfl, fun _ => ⟨g, l, cap, _, rfl, hg, ⟨by have := hL.one; omega, by have := hL.most; omega⟩, by omega, ho⟩⟩, hbw⟩
  · refine (sLoopOf_no N m k p c rs w h hm (by omega) hb).mono ?_
    rintro e w' ⟨⟨g, rfl⟩, hbw⟩
    exact ⟨⟨_, false, rfl, fun h => by cases h⟩, hbw⟩
theorem four_at (m : Int) (h0 : 0 ≤ m) (h1 : m < 4) (a b c d : Int) : ∃ z : Int, (#[Value.int .i64 a, Value.int .i64 b, Value.int .i64 c, Value.int .i64 d] : Array Value)[m.toNat]? = some (.int .i64 z) := by
  rcases (show m = 0 ∨ m = 1 ∨ m = 2 ∨ m = 3 by omega) with rfl | rfl | rfl | rfl
  · exact ⟨a, rfl⟩
  · exact ⟨b, rfl⟩
  · exact ⟨c, rfl⟩
  · exact ⟨d, rfl⟩
/-- what the draw of a net and of numbers gives -/
def LoopD (w : World) (N m k : Nat) (rs : List Rn) (T : List Int) (p q d R : Nat) (w' : World) : Prop := (rs.length = m ∧ T.length = k ∧ (2 ≤ N ∧ N ≤ 6) ∧ m ≤ 8 ∧ k ≤ 12 ∧ k ≤ d) ∧ Runs w' (some ⟨p, 0, none⟩) rs ∧ Ints w' (some ⟨q, 0, none⟩) T ∧ w.grownBy w' (some R)

set_option maxHeartbeats 8000000 in
set_option maxRecDepth 100000 in
theorem loop_is (R : Nat) (w : World) (h : Rdr 0 w R) :
    Calls Try.prog 49 #[.pointer (some ⟨R, 0, none⟩)] w fun e w' => ∃ (N m k : Nat) (rs : List Rn) (T : List Int) (p q d : Nat), (∃ c, e = .returned (.tuple #[.int .i64 N, .slice (some ⟨p, 0, none⟩) m c, .slice (some ⟨q, 0, none⟩) k d])) ∧ LoopD w N m k rs T p q d R w' := by
  have hRl := rdr_lt h
  have net_at : Calls Try.prog 58 #[.pointer (some ⟨R, 0, none⟩), .int .i64 5] w fun e w' => ∃ (N : Nat) (rs : List Rn) (g cap m : Nat), e = .returned (.tuple #[.int .i64 N, .slice (some ⟨g, 0, none⟩) m cap]) ∧ rs.length = m ∧ (2 ≤ N ∧ N ≤ 6) ∧ m ≤ 8 ∧ RunsIn w w' R g cap rs ∧ Rdr 60 w' R :=
    (net5_is R w h).mono fun e w' ⟨N, rs, g, cap, he, hN, hl, hr, hR⟩ => ⟨N, rs, g, cap, rs.length, he, rfl, hN, hl, hr, hR⟩
  go_enter Try.func49, Try.ntmps49
  go_upto_region 2 with (go_at_call 58; (with_reducible refine net_at.mono ?_); rintro e wn ⟨N, rs, g, cap, m, rfl, hm, ⟨hN2, hN6⟩, hm8, hri, hR_wn⟩; have hs_wn := hri.2.2.size; have hlg := hri.2.1.lt; have hgw := hri.1; have HI := Lib.hid (And.intro hri (And.intro hR_wn hm)); clear hri hm)
  have hgR : g ≠ R := by omega
  have HM := Lib.hid (And.intro HI.out.2.2 (And.intro hN2 hN6))
  clear net_at h hN2 hN6
  go_wp2_with fail
  go_loopw [7] (fun i wr => ∃ j : Nat, j ≤ m ∧ i = .int .i64 j ∧ RunsIn w wr R g cap rs ∧ Rdr (60 + 2 * j) wr R) (fun i _ => m - (intOf i).toNat)
  case atStart => exact ⟨0, Nat.zero_le _, rfl, HI.out.1, HI.out.2.1⟩
  case round =>
    clear HI hlg hs_wn hR_wn
    obtain ⟨j, hj, rfl, hri, hrd⟩ := hrel
    have hbs := hri.2.2.size
    have hlg2 := hri.2.1.lt
    have HO := Lib.hid hri
    clear hri
    by_cases hlt : j < m
    · have hm0 : (m : Int) ≠ 0 := by omega
      have hm0' : ((m : Int) == 0) = false := by simpa using hm0
      have c1 := fun k w h => Lib.hid (sLoopOf_any N m k (some ⟨g, 0, none⟩) cap rs w h HM.out.1 (by omega))
      go_upto_region 6 with (first | (go_at_call 59; (with_reducible refine (pick_any (60 + 2 * j) R (12) _ ?_ (by omega) (by omega) (by omega)).mono ?_); (focus ((repeat (first | with_reducible assumption | (with_reducible refine rdr_drewN ?_ _) | (with_reducible refine rdr_drew ?_) | (with_reducible refine rdr_alloc ?_ _) | (with_reducible refine rdr_setCell ?_ (by first | omega | (simp <;> omega) | simp) _) | (with_reducible refine rdr_chain ?_ (by with_reducible assumption)))); done)); rintro e wp ⟨m_wp, hm0_wp, hm1_wp, rfl, hR_wp, hg_wp, hq_wp⟩; have hs_wp := Nat.le_of_eq hq_wp; have ht_wp := Nat.le_of_eq hq_wp.symm; (try simp at hs_wp); (try simp at ht_wp); clear hq_wp) | ((go_at_call 27; (with_reducible refine ((c1 _ _ ?_).out).mono ?_); (focus ((exact (HO.out.moved hg_wp hgR).2.1.runs); done)); rintro e wx ⟨⟨v, ok, rfl, hv⟩, hb_wx⟩; have hs_wx := hb_wx.size; (try simp at hs_wx)); have HV := Lib.hid hv; clear hv))
      have hr1 := HO.out.moved hg_wp hgR
      have HX := Lib.hid (And.intro (hr1.below hb_wx) (rdr_chain hR_wp hb_wx))
      have hrd2 := HX.out.2
      have hlx := HX.out.1.2.1.lt
      have hgx := HX.out.1.2.2.size
      have hgp := hr1.2.2.size
      have hlp := hr1.2.1.lt
      clear hr1 HO hR_wp hg_wp hb_wx hrd c1 hlg2
      cases ok
      · go_wp2_with fail
        go_roundw
        case rel => exact ⟨j + 1, by omega, by go_num, HX.out.1, rdr_mono HX.out.2 (by omega)⟩
        case measure => simp [intOf]; omega
      · obtain ⟨q, l, d, L, rfl, hq, ⟨hl0, hl12⟩, hL, ho⟩ := HV.out rfl
        have hld : l ≤ d := by obtain ⟨_, _, h, _⟩ := ho.body; exact h
        have hqg : q ≠ g := by omega
        have hqR : q ≠ R := by omega
        have hqw : w.heap.size ≤ q := by omega
        have hlq := ho.lt
        have HL := Lib.hid (And.intro hL ho)
        clear HV hL ho
        go_upto_region 7 with ((go_at_call 59; (with_reducible refine (pick_any (60 + 2 * j + 1) R (4) _ ?_ (by omega) (by omega) (by omega)).mono ?_); (focus ((repeat (first | with_reducible assumption | (with_reducible refine rdr_drewN ?_ _) | (with_reducible refine rdr_drew ?_) | (with_reducible refine rdr_alloc ?_ _) | (with_reducible refine rdr_setCell ?_ (by first | omega | (simp <;> omega) | simp) _) | (with_reducible refine rdr_chain ?_ (by with_reducible assumption)))); done)); rintro e wq ⟨m_wq, hm0_wq, hm1_wq, rfl, hR_wq, hg_wq, hq_wq⟩; have hs_wq := Nat.le_of_eq hq_wq; have ht_wq := Nat.le_of_eq hq_wq.symm; (try simp at hs_wq); (try simp at ht_wq); clear hq_wq))
        · have HY := Lib.hid (And.intro (HX.out.1.moved hg_wq hgR) (And.intro hR_wq (HL.out.2.grown hg_wq hqR)))
          have hrd3 := HY.out.2.1
          have hly := HY.out.2.2.lt
          have hgy := HY.out.1.2.1.lt
          clear hrd2 HX hR_wq hg_wq
          go_upto_region 8 with ((go_at_call 59; (with_reducible refine (pick_any (60 + 2 * j + 1 + 1) R (6) _ ?_ (by omega) (by omega) (by omega)).mono ?_); (focus ((repeat (first | with_reducible assumption | (with_reducible refine rdr_drewN ?_ _) | (with_reducible refine rdr_drew ?_) | (with_reducible refine rdr_alloc ?_ _) | (with_reducible refine rdr_setCell ?_ (by first | omega | (simp <;> omega) | simp) _) | (with_reducible refine rdr_chain ?_ (by with_reducible assumption)))); done)); rintro e wu ⟨m_wu, hm0_wu, hm1_wu, rfl, hR_wu, hg_wu, hq_wu⟩; have hs_wu := Nat.le_of_eq hq_wu; have ht_wu := Nat.le_of_eq hq_wu.symm; (try simp at hs_wu); (try simp at ht_wu); clear hq_wu))
          · have HZ := Lib.hid (And.intro (HY.out.1.moved hg_wu hgR) (And.intro hR_wu (HY.out.2.2.grown hg_wu hqR)))
            have hrd4 := HZ.out.2.1
            have hlz := HZ.out.2.2.lt
            have hgz := HZ.out.1.2.1.lt
            have hl0' : (0 : Int) < (l : Int) := by omega
            clear hrd3 HY hR_wu hg_wu
            go_wp2_with (first | (go_at_call 59; (with_reducible refine (pick_any (60 + 2 * j + 1 + 1 + 1) R ((l : Int)) _ ?_ (by omega) (by omega) (by omega)).mono ?_); (focus ((repeat (first | with_reducible assumption | (with_reducible refine rdr_drewN ?_ _) | (with_reducible refine rdr_drew ?_) | (with_reducible refine rdr_alloc ?_ _) | (with_reducible refine rdr_setCell ?_ (by first | omega | (simp <;> omega) | simp) _) | (with_reducible refine rdr_chain ?_ (by with_reducible assumption)))); done)); rintro e wy ⟨m_wy, hm0_wy, hm1_wy, rfl, hR_wy, hg_wy, hq_wy⟩; have hs_wy := Nat.le_of_eq hq_wy; have ht_wy := Nat.le_of_eq hq_wy.symm; (try simp at hs_wy); (try simp at ht_wy); clear hq_wy) | ((go_at_call 59; (with_reducible refine (pick_any (60 + 2 * j + 1 + 1 + 1 + 1) R (4) _ ?_ (by omega) (by omega) (by omega)).mono ?_); (focus ((repeat (first | with_reducible assumption | (with_reducible refine rdr_drewN ?_ _) | (with_reducible refine rdr_drew ?_) | (with_reducible refine rdr_alloc ?_ _) | (with_reducible refine rdr_setCell ?_ (by first | omega | (simp <;> omega) | simp) _) | (with_reducible refine rdr_chain ?_ (by with_reducible assumption)))); done)); rintro e wz ⟨m_wz, hm0_wz, hm1_wz, rfl, hR_wz, hg_wz, hq_wz⟩; have hs_wz := Nat.le_of_eq hq_wz; have ht_wz := Nat.le_of_eq hq_wz.symm; (try simp at hs_wz); (try simp at ht_wz); clear hq_wz); obtain ⟨zz, hzz⟩ := four_at m_wz hm0_wz hm1_wz 0 ((m : Int) + 1) 1 (-1); have ez : wz.cell? ⟨wy.heap.size, m_wz.toNat, none⟩ = some (.int .i64 zz) := (by rw [(gcell hg_wz).1 _ _ (by simp) (by omega)]; simpa using hzz); obtain ⟨v0, hv0⟩ : ∃ v0, L[m_wy.toNat]? = some v0 := ⟨_, List.getElem?_eq_getElem (by have := HL.out.1; omega)⟩; have oz := ((HZ.out.2.2.grown hg_wy hqR).alloc (.cells #[.int .i64 0, .int .i64 ((m : Int) + 1), .int .i64 1, .int .i64 (-1)] 3)).grown hg_wz hqR; have fz := oz.frozen m_wy.toNat; have xz := oz.cells hv0; have lz := oz.lt; have OZ := Lib.hid oz; clear oz hv0))
            have h5 := (((HZ.out.1.moved hg_wy hgR).alloc (.cells #[.int .i64 0, .int .i64 ((m : Int) + 1), .int .i64 1, .int .i64 (-1)] 3)).moved hg_wz hgR)
            exact bodyPost_ret (v := .tuple #[.int .i64 N, .slice (some ⟨g, 0, none⟩) m cap, .slice (some ⟨q, 0, none⟩) l d]) (by simp [results, Try.results49, go_sem]) rfl ⟨N, m, l, rs, L.set m_wy.toNat zz, g, q, d, ⟨cap, rfl⟩, ⟨HM.out.1, by simpa using HL.out.1, HM.out.2, hm8, hl12, hld⟩, (h5.2.1.setOther (a := ⟨q, m_wy.toNat, none⟩) (by simpa using hqg.symm) _).runs, (OZ.out.set m_wy.toNat zz (by have := HL.out.1; omega)).ints, gb_new h5.2.2 hqw _⟩
          · go_wp2_with fail
            have h5 := HY.out.1.moved hg_wu hgR
            exact bodyPost_ret (v := .tuple #[.int .i64 N, .slice (some ⟨g, 0, none⟩) m cap, .slice (some ⟨q, 0, none⟩) l d]) (by simp [results, Try.results49, go_sem]) rfl ⟨N, m, l, rs, L, g, q, d, ⟨cap, rfl⟩, ⟨HM.out.1, HL.out.1, HM.out.2, hm8, hl12, hld⟩, h5.2.1.runs, (HY.out.2.2.grown hg_wu hqR).ints, h5.2.2⟩
        · go_wp2_with fail
          go_roundw
          case rel => exact ⟨j + 1, by omega, by go_num, HX.out.1.moved hg_wq hgR, rdr_mono hR_wq (by omega)⟩
          case measure => simp [intOf]; omega
    · have e : j = m := by omega
      subst e
      by_cases h0 : 0 < j
      · have h0' : (0 : Int) < (j : Int) := by omega
        go_wp2_with ((go_at_call 59; (with_reducible refine (pick_any (60 + 2 * j) R ((j : Int)) _ ?_ (by omega) (by omega) (by omega)).mono ?_); (focus ((repeat (first | with_reducible assumption | (with_reducible refine rdr_drewN ?_ _) | (with_reducible refine rdr_drew ?_) | (with_reducible refine rdr_alloc ?_ _) | (with_reducible refine rdr_setCell ?_ (by first | omega | (simp <;> omega) | simp) _) | (with_reducible refine rdr_chain ?_ (by with_reducible assumption)))); done)); rintro e wp ⟨m_wp, hm0_wp, hm1_wp, rfl, hR_wp, hg_wp, hq_wp⟩; have hs_wp := Nat.le_of_eq hq_wp; have ht_wp := Nat.le_of_eq hq_wp.symm; (try simp at hs_wp); (try simp at ht_wp); clear hq_wp))
        have h5 := HO.out.moved hg_wp hgR
        have hls := h5.2.2.size
        exact bodyPost_ret (v := .tuple #[.int .i64 N, .slice (some ⟨g, 0, none⟩) j cap, .slice (some ⟨wp.heap.size, 0, none⟩) 2 2]) (by simp [results, Try.results49, go_sem]) rfl ⟨N, j, 2, rs, [1 + m_wp, -(1 + m_wp)], g, wp.heap.size, 2, ⟨cap, rfl⟩, ⟨HM.out.1, rfl, HM.out.2, hm8, by omega, by omega⟩, (h5.2.1.alloc _).runs, (Own.lit wp 3 [1 + m_wp, -(1 + m_wp)] (by simp [maxLen])).ints, gb_alloc h5.2.2 _⟩
      · have h0' : ¬ (0 : Int) < (j : Int) := by omega
        have h5 := HO.out
        go_wp2_with fail
        exact bodyPost_ret (v := .tuple #[.int .i64 N, .slice (some ⟨g, 0, none⟩) j cap, .slice (some ⟨wr.heap.size, 0, none⟩) 0 0]) (by simp [results, Try.results49, go_sem]) rfl ⟨N, j, 0, rs, [], g, wr.heap.size, 0, ⟨cap, rfl⟩, ⟨HM.out.1, rfl, HM.out.2, hm8, by omega, by omega⟩, (HO.out.2.1.alloc _).runs, .inl rfl, gb_alloc HO.out.2.2 _⟩
end Go.Proofs.Ytimghdffmdcheaa
