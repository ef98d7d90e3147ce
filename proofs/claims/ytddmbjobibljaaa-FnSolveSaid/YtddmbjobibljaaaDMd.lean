/-
  What the draws of the laws on matrices give: a matrix and a list.
-/
import Derived.Test.YtddmbjobibljaaaDMc
namespace Go.Proofs.Ytddmbjobibljaaa
open Go.RowKit
set_option linter.unusedVariables false

theorem MatD.drew {w w' : World} {n g k cap : Nat} {bs : List (Nat × Nat)} {L : List (List Int)} (h : MatD w n g k cap bs L w') : MatD w n g k cap bs L w'.drew := ⟨h.1, h.2.1.block (fun _ _ _ => rfl), ⟨h.2.2.os, h.2.2.tape, h.2.2.output, h.2.2.size, h.2.2.block⟩⟩
/-- a list of a call's own, from some place on -/
def ListD (w : World) (g : Nat) (q : Option Addr) (m : Nat) (xs : List Int) (w' : World) : Prop := xs.length = m ∧ m ≤ 4 ∧ (xs = [] ∨ ∃ (gx n cx o : Nat) (X : List Int), q = some ⟨gx, o, none⟩ ∧ xs = X.drop o ∧ Own w' gx 3 1 n cx X ∧ w.heap.size ≤ gx ∧ gx ≠ g)
theorem ListD.ints {w w' : World} {g : Nat} {q : Option Addr} {m : Nat} {xs : List Int} (h : ListD w g q m xs w') : Ints w' q xs := by
  obtain ⟨_, _, rfl | ⟨gx, n, cx, o, X, rfl, rfl, ho, h1, h2⟩⟩ := h
  · exact .inl rfl
  · refine .inr ⟨gx, o, rfl, ho.lt, fun j z hj => ?_⟩
    rw [List.getElem?_drop] at hj
    exact ho.cells hj
theorem ListD.whole {w w' : World} {g gx n cx : Nat} {X : List Int} (h : Own w' gx 3 1 n cx X) (h1 : w.heap.size ≤ gx) (h2 : gx ≠ g) (h3 : X.length = n) (h4 : n ≤ 4) : ListD w g (some ⟨gx, 0, none⟩) n X w' := ⟨h3, h4, .inr ⟨gx, n, cx, 0, X, rfl, rfl, h, h1, h2⟩⟩
theorem ListD.rest {w w' : World} {g gx n cx : Nat} {X : List Int} (h : Own w' gx 3 1 n cx X) (h1 : w.heap.size ≤ gx) (h2 : gx ≠ g) (h3 : X.length = n) (h4 : n ≤ 4) : ListD w g (some ⟨gx, 1, none⟩) (n - 1) (X.drop 1) w' := ⟨by rw [List.length_drop, h3], by omega, .inr ⟨gx, n, cx, 1, X, rfl, rfl, h, h1, h2⟩⟩
set_option maxHeartbeats 4000000 in
set_option maxRecDepth 100000 in
theorem drawMatApply_is (v : Value) (w : World) (h : Hid (Code' w v)) :
    Calls Try.prog 31 #[v] w fun e w' => ∃ (A : List (List Int)) (bs : List (Nat × Nat)) (g k cap m d : Nat) (q : Option Addr) (xs : List Int), e = .returned (.tuple #[.slice (some ⟨g, 0, none⟩) k cap, .slice q m d]) ∧ MatD w 4 g k cap bs A w' ∧ ListD w g q m xs w' := by
  go_enter Try.func31, Try.ntmps31
  go_upto_region 2 with (go_at_call 30; (with_reducible refine (open_any _ _ h).mono ?_); rintro e wo ⟨rfl, hR_wo, hb_wo, hz_wo⟩; have hs_wo := hb_wo.size; clear hz_wo)
  obtain ⟨R, hRe⟩ : ∃ R, R = w.heap.size := ⟨_, rfl⟩
  rw [← hRe] at hR_wo ⊢
  have hwR : w.heap.size ≤ R := by omega
  have hRw : R ≤ w.heap.size := by omega
  clear hRe h
  have hRlt := rdr_lt hR_wo
  have HW := Lib.hid hb_wo
  clear hb_wo
  go_upto_region 3 with ((go_at_call 32; (with_reducible refine (pick_any (0) R (4) _ ?_ (by omega) (by omega) (by omega)).mono ?_); (focus ((repeat (first | with_reducible assumption | (with_reducible refine rdr_drewN ?_ _) | (with_reducible refine rdr_drew ?_) | (with_reducible refine rdr_alloc ?_ _) | (with_reducible refine rdr_setCell ?_ (by first | omega | (simp <;> omega) | simp) _) | (with_reducible refine rdr_chain ?_ (by with_reducible assumption)))); done)); rintro e wp ⟨m_wp, hm0_wp, hm1_wp, rfl, hR_wp, hg_wp, hq_wp⟩; have hs_wp := Nat.le_of_eq hq_wp; have ht_wp := Nat.le_of_eq hq_wp.symm; (try simp at hs_wp); (try simp at ht_wp); clear hq_wp); have HP := Lib.hid hg_wp)
  obtain ⟨n, hn⟩ : ∃ n : Nat, 1 + m_wp = n := ⟨(1 + m_wp).toNat, by omega⟩
  have hn1 : 1 ≤ n := by omega
  have hn4 : n ≤ 4 := by omega
  rw [hn]
  go_wp2_with (go_at_call 44; (with_reducible refine (mat_is 1 R n _ hR_wp (by omega) (by omega) (by omega)).mono ?_); rintro e wm ⟨L, bs, g, k, cap, rfl, hd, hg, hR_wm⟩; have HM := Lib.hid (And.intro hd hg); have hs_wm := hg.2.size; have hlg := hg.1.lt; have hlow := hg.1.low; clear hd hg)
  have hRm : R < wm.heap.size := by omega
  have HE := Lib.hid (And.intro (Own.empty wm 3 1) (rdr_alloc hR_wm (.cells #[] 3)))
  go_loopw [7, 8] (fun v i wz => ∃ (y gr cr : Nat) (T : List Int), y ≤ n ∧ i = .int .i64 y ∧ v = .slice (some ⟨gr, 0, none⟩) y cr ∧ T.length = y ∧ wm.heap.size ≤ gr ∧ Own wz gr 3 1 y cr T ∧ wm.grownBy wz (some R) ∧ Rdr (41 + y) wz R) (fun _ i _ => n - (intOf i).toNat)
  case atStart => exact ⟨0, _, _, [], Nat.zero_le _, rfl, rfl, rfl, Nat.le_refl _, HE.out.1, gb_alloc (gb_refl _ _) _, HE.out.2⟩
  case round =>
    clear HE
    rename World => wz
    obtain ⟨y, gr, cr, T, hy, rfl, rfl, hT, hgr, ho, hgz, hrd⟩ := hrel
    have hsz := hgz.size
    have hlo := ho.lt
    have HX := Lib.hid (And.intro ho (And.intro hgz hT))
    clear ho hgz hT
    by_cases hyn : y < n
    · have hyn' : (y : Int) < (n : Int) := by omega
      go_wp2_with (first | ((go_at_call 32; (with_reducible refine (pick_any (41 + y) R (21) _ ?_ (by omega) (by omega) (by omega)).mono ?_); (focus ((repeat (first | with_reducible assumption | (with_reducible refine rdr_drewN ?_ _) | (with_reducible refine rdr_drew ?_) | (with_reducible refine rdr_alloc ?_ _) | (with_reducible refine rdr_setCell ?_ (by first | omega | (simp <;> omega) | simp) _) | (with_reducible refine rdr_chain ?_ (by with_reducible assumption)))); done)); rintro e wq ⟨m_wq, hm0_wq, hm1_wq, rfl, hR_wq, hg_wq, hq_wq⟩; have hs_wq := Nat.le_of_eq hq_wq; have ht_wq := Nat.le_of_eq hq_wq.symm; (try simp at hs_wq); (try simp at ht_wq); clear hq_wq); have HQ := Lib.hid (And.intro (HX.out.1.grown hg_wq (by omega)) (gb_trans HX.out.2.1 hg_wq))) | (at_builtin; refine wp_append _ rfl _ _ 23 rfl 3 _ 1 8 Try.underlying23 info_int rfl (by decide) (by decide) gr y cr _ rfl (HQ.out.1.alloc _) _ _ _ [m_wq - 10] rfl rfl (one_cellA _ _ _) (by omega) ?_; intro g1 d1 w1 hown hg1 hloc hsz1; have HN := Lib.hid (And.intro hown (And.intro hg1 hloc)); clear hown hg1 hloc))
      go_roundw
      case rel =>
        obtain ⟨hown, hg1, hloc⟩ := HN.out
        exact ⟨y + 1, g1, d1, _, by omega, by go_num, rfl, by rw [List.length_append, HX.out.2.2]; rfl, by rcases hloc with e | e; (omega); (simp at e; omega), hown, gb_ownM (gb_alloc HQ.out.2 _) hg1 hgr, by have := rdr_ownM (rdr_alloc hR_wq (.cells #[.int .i64 (m_wq - 10)] 3)) hg1 (by omega); exact rdr_mono this (by omega)⟩
      case measure => simp [intOf]; omega
    · have e : y = n := by omega
      subst e
      go_upto_region 10 with ((go_at_call 32; (with_reducible refine (pick_any (41 + y) R (24) _ ?_ (by omega) (by omega) (by omega)).mono ?_); (focus ((repeat (first | with_reducible assumption | (with_reducible refine rdr_drewN ?_ _) | (with_reducible refine rdr_drew ?_) | (with_reducible refine rdr_alloc ?_ _) | (with_reducible refine rdr_setCell ?_ (by first | omega | (simp <;> omega) | simp) _) | (with_reducible refine rdr_chain ?_ (by with_reducible assumption)))); done)); rintro e wc ⟨m_wc, hm0_wc, hm1_wc, rfl, hR_wc, hg_wc, hq_wc⟩; have hs_wc := Nat.le_of_eq hq_wc; have ht_wc := Nat.le_of_eq hq_wc.symm; (try simp at hs_wc); (try simp at ht_wc); clear hq_wc))
      have hRp : R < wp.heap.size := by omega
      have hM2 := ((HM.out.2.moved HX.out.2.1 hRp).moved hg_wc hRp)
      have ho2 := HX.out.1.grown hg_wc (by omega)
      have h1 : wo.grownBy wc (some R) := gb_trans HP.out hM2.2
      have hB := below_gbM HW.out h1 hwR hs_wo
      have hgo := hM2.1.mono (show w.heap.size ≤ wp.heap.size by omega)
      have hl2 := ho2.lt
      have HC := Lib.hid (And.intro (show MatD w 4 g k cap bs L wc from ⟨HM.out.1.up (by omega), hgo, hB⟩) (And.intro ho2 HX.out.2.2))
      have HZ := Lib.hid HM.out.2.1.z
      clear hM2 ho2 h1 hB hgo HX HM HP HW hR_wc hg_wc hrd
      by_cases hm0 : m_wc = 0
      · subst hm0
        have f0 := HC.out.2.1.frozen 0
        obtain ⟨v1, hv1⟩ : ∃ v1, T[0]? = some v1 := ⟨_, List.getElem?_eq_getElem (by have := HC.out.2.2; omega)⟩
        have e0 := HC.out.2.1.cells hv1
        have hy0 : (0 : Int) < (y : Int) := by omega
        go_wp2_with fail
        have h6 := HC.out.2.1.set 0 1000001 (by have := HC.out.2.2; omega)
        exact bodyPost_ret (v := .tuple #[.slice (some ⟨g, 0, none⟩) k cap, .slice (some ⟨gr, 0, none⟩) y cr]) (by simp [results, Try.results31, go_sem]) rfl ⟨L, bs, g, k, cap, y, cr, some ⟨gr, 0, none⟩, T.set 0 1000001, rfl, ⟨HC.out.1.1, HC.out.1.2.1.under (below_gbM (Below.refl _ _) (gb_oneM wc gr 0 _) hgr (by omega)) hlg HZ.out, below_gbM HC.out.1.2.2 (gb_oneM wc gr 0 _) (by omega) (by omega)⟩, .whole h6 (by omega) (by omega) (by rw [List.length_set]; exact HC.out.2.2) hn4⟩
      · by_cases hm1 : m_wc = 1
        · subst hm1
          have hy1 : (1 : Int) ≤ (y : Int) := by omega
          have hc := HC.out.2.1.body
          obtain ⟨cur, _, hc1, _⟩ := hc
          have hc2 : (y : Int) ≤ (cr : Int) := by omega
          go_upto_region 13 with fail
          go_region_with fail
          go_wp2_with fail
          · exact bodyPost_ret (v := .tuple #[.slice (some ⟨g, 0, none⟩) k cap, .slice (some ⟨gr, 0, none⟩) (y - 1) 0]) (by simp [results, Try.results31, go_sem]) rfl ⟨L, bs, g, k, cap, y - 1, 0, some ⟨gr, 0, none⟩, rfl, HC.out.1.drew, [], ⟨by show 0 = y - 1; omega, by omega, .inl rfl⟩⟩
          · exact bodyPost_ret (v := .tuple #[.slice (some ⟨g, 0, none⟩) k cap, .slice (some ⟨gr, 1, none⟩) (y - 1) (cr - 1)]) (by simp [results, Try.results31, go_sem]) rfl ⟨L, bs, g, k, cap, y - 1, cr - 1, some ⟨gr, 1, none⟩, rfl, HC.out.1.drew, T.drop 1, .rest (show Own wc.drew gr 3 1 y cr T from HC.out.2.1) (by omega) (by omega) HC.out.2.2 hn4⟩
        · go_wp2_with fail
          exact bodyPost_ret (v := .tuple #[.slice (some ⟨g, 0, none⟩) k cap, .slice (some ⟨gr, 0, none⟩) y cr]) (by simp [results, Try.results31, go_sem]) rfl ⟨L, bs, g, k, cap, y, cr, some ⟨gr, 0, none⟩, T, rfl, HC.out.1, .whole HC.out.2.1 (by omega) (by omega) HC.out.2.2 hn4⟩
end Go.Proofs.Ytddmbjobibljaaa
