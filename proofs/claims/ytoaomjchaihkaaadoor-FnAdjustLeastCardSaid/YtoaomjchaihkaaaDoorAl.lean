/-
  For every code the law FnAdjustLeast returns true: impl.AdjustTry answers as the reference model does; no heights have a lesser sum than the adjusted ones, and only the adjusted heights, shifted, have the same. Condition: the package's error variable holds the error that its initialiser lays (the card ties that to the program's text, pruned to the packages that the law loads); every list of bytes is taken.
-/
import Derived.Test.YtoaomjchaihkaaaDoorEl
import Derived.Test.YtoaomjchaihkaaaDoorEt
import Derived.Test.YtoaomjchaihkaaaDoorDNt
import Derived.Test.YtoaomjchaihkaaaDoorEp
import Derived.Test.YtoaomjchaihkaaaDoorCode
namespace Go.Proofs.YtoaomjchaihkaaaDoor.fnAdjustLeast
open Go.ChangeShapes Go.WideShapes Go.ChangeAt Go.RowKit
set_option linter.unusedVariables false

def at0 (hs : List Int) (i : Nat) : Int := (hs[i]?).getD 0
theorem tryV_eq (hs : List Int) (rs : List Rn) : tryV hs rs = lsm rs (fun r => r.g * ((at0 hs r.t.toNat - at0 hs r.f.toNat - r.s) * (at0 hs r.t.toNat - at0 hs r.f.toNat - r.s))) := lsm_congr (fun r _ => by
  show r.g * (htAt hs r.t - htAt hs r.f - r.s) * (htAt hs r.t - htAt hs r.f - r.s) = _
  rw [Int.mul_assoc]; rfl)
theorem tryV_nn {hs : List Int} {rs : List Rn} (hg : ∀ r ∈ rs, 1 ≤ r.g) : 0 ≤ tryV hs rs := by
  rw [tryV_eq]
  exact (lsm_nn rs _ (fun r hr => Int.mul_nonneg (by have := hg r hr; omega) (sq_nn _))).1
theorem sg_pos {x : Int} (h : 0 < x) : Quo.sg x = 1 := by unfold Quo.sg; split <;> (try split) <;> omega
/-- the height at i is the adjusted one -/
def same0 (n : Nat) (rs : List Rn) (hs : List Int) (i : Nat) : Bool := decide ((at0 hs i - at0 hs 0) * dT n rs = hT n rs i)
def sameTo (n : Nat) (rs : List Rn) (hs : List Int) (j : Nat) : Bool := (List.range j).all (same0 n rs hs)
theorem sameTo_succ (n : Nat) (rs : List Rn) (hs : List Int) (j : Nat) : sameTo n rs hs (j + 1) = (sameTo n rs hs j && same0 n rs hs j) := by
  unfold sameTo; rw [List.range_succ, List.all_append]; simp
theorem same_iff {n : Nat} {rs : List Rn} {hs : List Int} (hg : ∀ r ∈ rs, 1 ≤ r.g) (hw : Spn (n + 1) S0 rs) (hin : InN (n + 1) rs) : sameTo n rs hs (n + 1) = true ↔ farS n rs (at0 hs) = 0 := by
  rw [far_zero hg hw hin]
  unfold sameTo same0
  simp
/-- the order of a sum and the least one -/
theorem order_is {n : Nat} {rs : List Rn} {hs : List Int} {t l : Int} (hg : ∀ r ∈ rs, 1 ≤ r.g) (hw : Spn (n + 1) S0 rs) (hin : InN (n + 1) rs) (hD : dT n rs ≠ 0)
    (v : Quo.Val t l (lsm rs (fun r => r.g * (rest n rs r * rest n rs r))) (dT n rs * dT n rs)) : Quo.sg (tryV hs rs * l - t * 1) = if sameTo n rs hs (n + 1) = true then 0 else 1 := by
  have h := least_sign hin hD (at0 hs) (tryV_eq hs rs) v
  have h0 := far_nn (n := n) hg (at0 hs)
  have hl : 0 < l := by have := (Quo.qv_true v.1); omega
  have hDD : 0 < dT n rs * dT n rs := by have := sq_nn (dT n rs); have := Int.mul_ne_zero hD hD; omega
  rw [Int.mul_one]
  split
  · next hs' =>
    rw [(same_iff hg hw hin).1 hs', Int.mul_zero] at h
    have : tryV hs rs * l - t = 0 := by
      rcases Int.mul_eq_zero.1 h with h1 | h1
      · exact h1
      · omega
    rw [this]; rfl
  · next hs' =>
    have h1 : farS n rs (at0 hs) ≠ 0 := fun h2 => hs' ((same_iff hg hw hin).2 h2)
    have h2 : 0 < l * farS n rs (at0 hs) := Int.mul_pos hl (by omega)
    rw [← h] at h2
    exact sg_pos (by
      rcases Int.lt_or_le 0 (tryV hs rs * l - t) with h3 | h3
      · exact h3
      · have := Int.mul_le_mul_of_nonneg_right h3 (Int.le_of_lt hDD)
        rw [Int.zero_mul] at this; omega)
theorem ways_w {V : World} {G : Prop} {P : World → Prop} (h1 : (∀ W, Below V.heap.size V W → P W) → G) (h2 : ∀ W, Below V.heap.size V W → P W) : G := h1 h2
/-- a height less the adjusted one -/
theorem take_is {n : Nat} {rs : List Rn} {hs : List Int} {N j : Nat} (hh : htOk (N : Int) hs = true) (hD : dT n rs ≠ 0) (v : Quo.Val (Quo.T (hT n rs j) (dT n rs)) (Quo.L (hT n rs j) (dT n rs)) (hT n rs j) (dT n rs)) :
    ∃ u y b, (∀ w, Hid (Calls Tryd.prog 24 #[.agg #[.int .i64 (at0 hs j - at0 hs 0), .int .i64 1], .agg #[.int .i64 (Quo.T (hT n rs j) (dT n rs)), .int .i64 (Quo.L (hT n rs j) (dT n rs))]] w fun e w' => e = .returned (.tuple #[.agg #[.int .i64 u, .int .i64 y], .bool b]) ∧ Below w.heap.size w w')) ∧ (b = true → u = 0 → y = 1) ∧ (same0 n rs hs j = (b && decide (u = 0))) := by
  have b1 := htOk_low hh (j : Int)
  have b2 := htOk_low hh (0 : Int)
  have e1 : htAt hs (j : Int) = at0 hs j := by unfold htAt at0; rw [Int.toNat_natCast]
  have e2 : htAt hs 0 = at0 hs 0 := rfl
  rw [e1] at b1
  rw [e2] at b2
  have vw := Quo.Val.whole (x := at0 hs j - at0 hs 0) (D := dT n rs) (by omega) (by omega) hD
  have a := vw.take v
  obtain ⟨q1, q2, q3, q4, -⟩ := Quo.qv_true v.1
  refine ⟨_, _, _, fun w => Lib.hid (iTake_any (at0 hs j - at0 hs 0) 1 (Quo.T (hT n rs j) (dT n rs)) (Quo.L (hT n rs j) (dT n rs)) w (by omega) (by omega)), ?_, ?_⟩
  · intro hb hu
    rw [a.1] at hb
    have e := a.2.1 hb
    rw [e.1] at hu
    rw [e.2]
    have vv := Quo.Val.of hD hb
    have h0 := Quo.val_zero vv hu
    rw [h0]; exact (Quo.T_zero hD).2
  · unfold same0
    rw [a.1]
    cases hb : Quo.qO ((at0 hs j - at0 hs 0) * dT n rs - hT n rs j) (dT n rs)
    · simp only [Bool.false_and, decide_eq_false_iff_not]
      intro h0
      have : (at0 hs j - at0 hs 0) * dT n rs - hT n rs j = 0 := by omega
      rw [this] at hb
      have := (Quo.Val.ok (t := 0) (l := 1) (N := 0) (D := dT n rs) ⟨Quo.qv_whole (by omega) (by omega), hD, by simp⟩)
      rw [this] at hb; cases hb
    · have e := a.2.1 hb
      rw [e.1]
      simp only [Bool.true_and]
      congr 1
      apply propext
      constructor
      · intro h0
        have : (at0 hs j - at0 hs 0) * dT n rs - hT n rs j = 0 := by omega
        rw [this]; exact (Quo.T_zero hD).1
      · intro hu
        have := Quo.val_zero (Quo.Val.of hD hb) hu
        omega
theorem ints_at {w : World} {B o j : Nat} {hs : List Int} (h : Ints w (some ⟨B, o, none⟩) hs) (hj : j < hs.length) : w.cell? ⟨B, o + j, none⟩ = some (.int .i64 (at0 hs j)) := by
  rcases h with rfl | ⟨B', o', e, -, hc⟩
  · simp at hj
  · cases e
    have e : hs[j]? = some (at0 hs j) := by unfold at0; rw [List.getElem?_eq_getElem hj]; rfl
    exact hc j _ e

set_option maxHeartbeats 8000000 in
set_option maxRecDepth 100000 in
theorem walk (len cap : Nat) (p : Option Addr) (w : World) (hl : len ≤ 1048576) (h : Hid (Code' w (.slice p len cap))) (he : Hid (ErrV w)) :
    Calls Tryd.prog 4 #[.slice p len cap] w fun e w' => e = .returned (.bool true) ∧ Below w.heap.size w w' := by
  have hl' : ¬ (1048576 : Int) < (len : Int) := by omega
  go_enter Tryd.func4, Tryd.ntmps4
  go_upto_region 4 with (go_at_call 19; (with_reducible refine (drawAdjTry_is _ _ h).mono ?_); rintro e wd ⟨N, m, k, rs, hs, P, Q, ⟨c, d, hmc, rfl⟩, ⟨hmm, hkk, ⟨hN2, hN6⟩, hm8, hk6⟩, hR, hI, hb_wd⟩; have hs_wd := hb_wd.size; have HR := Lib.hid (show RunsE _ _ _ from ⟨hR, he.out.below hb_wd⟩); have HI := Lib.hid hI; have HM := Lib.hid hmm; have HK := Lib.hid hkk; clear hR hI)
  clear h hmm hkk
  by_cases hy : nOk (N : Int) rs = true ∧ htOk (N : Int) hs = true
  · obtain ⟨n, hNn⟩ : ∃ n, N = n + 1 := ⟨N - 1, by omega⟩
    obtain ⟨hn, hh⟩ := hy
    have hkN : k = N := by have := (htOk_true hh).1; have := HK.out; omega
    subst hkN
    obtain ⟨Bq, oq, hQe⟩ : ∃ B o, Q = (⟨B, o, none⟩ : Addr) := by
      rcases HI.out with h0 | ⟨B, o, e, -, -⟩
      · have := HK.out; rw [h0] at this; simp at this; omega
      · cases e; exact ⟨B, o, rfl⟩
    subst hQe
    have hg : ∀ r ∈ rs, 1 ≤ r.g := fun r hr => by
      obtain ⟨i, hi⟩ := List.getElem?_of_mem hr
      have := rOk_true ((nOk_true hn).2.2.2 i r hi)
      omega
    have hin : InN (n + 1) rs := by rw [← hNn]; exact nOk_in hn
    have hO0 : 0 ≤ tryV hs rs := tryV_nn hg
    have c1 := fun w h1 h2 => Lib.hid (iTry_yes k (some ⟨P, 0, none⟩) (some ⟨Bq, oq, none⟩) c d m rs hs w h1 h2 HM.out HK.out hn hh)
    have c2 := fun w h1 h2 => Lib.hid (sTry_yes k (some ⟨P, 0, none⟩) (some ⟨Bq, oq, none⟩) c d m rs hs w h1 h2 HM.out HK.out hn hh)
    obtain ⟨O, hO⟩ : ∃ O, tryV hs rs = O := ⟨_, rfl⟩
    rw [hO] at c1 c2 hO0
    have hO0' : ¬ O < 0 := by omega
    have HNn := Lib.hid hNn
    clear hNn
    go_upto_region 8 with (first | (go_at_call 20; (with_reducible refine ((c1 _ ?_ ?_).out).mono ?_); (focus ((exact (HR.out).runs); done)); (focus ((exact HI.out); done)); rintro e wt ⟨rfl, hb_wt⟩; have hs_wt := hb_wt.size; (try simp at hs_wt)) | (go_at_call 21; (with_reducible refine ((c2 _ ?_ ?_).out).mono ?_); (focus ((exact (HR.out.below hb_wt).runs); done)); (focus ((exact HI.out.below hb_wt); done)); rintro e ws ⟨rfl, hb_ws⟩; have hs_ws := hb_ws.size; (try simp at hs_ws)))
    have hb_ts : Below wd.heap.size wd ws := (by repeat (first | assumption | exact Below.refl _ _ | (refine below_chain ?_ (by assumption) (by first | omega | (simp <;> omega) | simp)) | (refine Below.alloc ?_ (by first | omega | (simp <;> omega) | simp) _) | (apply below_drewN) | (apply below_drew) | (refine Below.setCell ?_ (by first | omega | (simp <;> omega) | simp) _)))
    have hs_ts := hb_ts.size
    clear hb_wt hb_ws c1 c2 hs_wt hs_ws
    cases ha : adjOk (k : Int) rs
    · have c3 := fun w h => Lib.hid (iSum_no k (some ⟨P, 0, none⟩) c m rs w h HM.out (by omega) ha)
      have c4 := fun w h => Lib.hid (iHeights_no k (some ⟨P, 0, none⟩) c m rs w h HM.out (by omega) ha)
      clear ha hO hg hin
      go_upto_region 9 with ((go_at_call 22; (with_reducible refine ((c3 _ ?_).out).mono ?_); (focus ((exact HR.out.below hb_ts); done)); rintro e wi ⟨rfl, hb_wi⟩; have hs_wi := hb_wi.size; (try simp at hs_wi)))
      have hX := Cell2.new wi 0 0 31
      have hBd := hb_ts.trans ((hb_wi.trans (((Below.refl _ _).alloc (Nat.le_refl _) _ : Below wi.heap.size wi (wi.alloc (.cells #[.int .i64 0, .int .i64 0] 31))).mono hs_wi)).mono hs_ts)
      obtain ⟨V, hV⟩ : ∃ V, V = wi.alloc (.cells #[.int .i64 0, .int .i64 0] 31) := ⟨_, rfl⟩
      obtain ⟨XV, hXe⟩ : ∃ X, X = wi.heap.size := ⟨_, rfl⟩
      rw [← hV] at hX hBd ⊢
      rw [← hXe] at hX ⊢
      have HV := Lib.hid (And.intro hX hBd)
      clear hX hBd hV hXe hb_wi hs_wi
      go_upto_region 12 with ((go_at_call 12; (with_reducible refine ((c4 _ ?_).out).mono ?_); (focus ((exact HR.out.below HV.out.2); done)); rintro e wj ⟨⟨q, d2, rfl⟩, hb_wj⟩; have hs_wj := hb_wj.size; (try simp at hs_wj)))
      go_wp2_with fail
      exact bodyPost_ret (v := .bool true) (by simp [results, Tryd.results4, go_sem]) rfl ⟨rfl, hb_wd.trans ((HV.out.2.trans (hb_wj.mono HV.out.2.size)).mono hs_wd)⟩
    · have c3 := fun w h => Lib.hid (iSum_yes k n (some ⟨P, 0, none⟩) c m rs w h ha HM.out HNn.out)
      have c4 := fun w h => Lib.hid (iHeights_yes k n (some ⟨P, 0, none⟩) c m rs w h ha HM.out HNn.out)
      obtain ⟨o, ho⟩ : ∃ o, smV n rs = o := ⟨_, rfl⟩
      have hwn := (adj_true ha HNn.out).1
      rw [ho] at c3
      cases o with
      | none =>
        have c3 : ∀ w, RunsE w (some ⟨P, 0, none⟩) rs → Hid (Calls Tryd.prog 22 #[.int .i64 k, .slice (some ⟨P, 0, none⟩) m c] w fun e w' => e = .returned (.tuple #[.agg #[.int .i64 0, .int .i64 0], .bool false]) ∧ Below w.heap.size w w') := c3
        clear ha hO hg hin ho hwn
        go_upto_region 9 with ((go_at_call 22; (with_reducible refine ((c3 _ ?_).out).mono ?_); (focus ((exact HR.out.below hb_ts); done)); rintro e wi ⟨rfl, hb_wi⟩; have hs_wi := hb_wi.size; (try simp at hs_wi)))
        have hX := Cell2.new wi 0 0 31
        have hBd := hb_ts.trans ((hb_wi.trans (((Below.refl _ _).alloc (Nat.le_refl _) _ : Below wi.heap.size wi (wi.alloc (.cells #[.int .i64 0, .int .i64 0] 31))).mono hs_wi)).mono hs_ts)
        obtain ⟨V, hV⟩ : ∃ V, V = wi.alloc (.cells #[.int .i64 0, .int .i64 0] 31) := ⟨_, rfl⟩
        obtain ⟨XV, hXe⟩ : ∃ X, X = wi.heap.size := ⟨_, rfl⟩
        rw [← hV] at hX hBd ⊢
        rw [← hXe] at hX ⊢
        have HV := Lib.hid (And.intro hX hBd)
        clear hX hBd hV hXe hb_wi hs_wi

        go_upto_region 12 with ((go_at_call 12; (with_reducible refine ((c4 _ ?_).out).mono ?_); (focus ((exact HR.out.below HV.out.2); done)); rintro e wj ⟨gj, dj, rfl, hgj, oj, hb_wj⟩; have hs_wj := hb_wj.size; (try simp at hs_wj)))
        go_wp2_with fail
        exact bodyPost_ret (v := .bool true) (by simp [results, Tryd.results4, go_sem]) rfl ⟨rfl, hb_wd.trans ((HV.out.2.trans (hb_wj.mono HV.out.2.size)).mono hs_wd)⟩
      | some o =>
        obtain ⟨t, l⟩ := o
        have c3 : ∀ w, RunsE w (some ⟨P, 0, none⟩) rs → Hid (Calls Tryd.prog 22 #[.int .i64 k, .slice (some ⟨P, 0, none⟩) m c] w fun e w' => e = .returned (.tuple #[.agg #[.int .i64 t, .int .i64 l], .bool true]) ∧ Below w.heap.size w w') := c3
        have hD : dT n rs ≠ 0 := by
          have := dT_pos (n := n) (rs := rs) (by rw [← HNn.out]; exact hwn) (by rw [← HNn.out]; exact hn)
          omega
        have hsp : Spn (n + 1) S0 rs := (whole_spn (N := n + 1) (by rw [← HNn.out]; exact hn)).1 (by rw [← HNn.out]; exact hwn)
        have v : Quo.Val t l _ _ := smV_val hD (fun r hr => ⟨hg r hr, by
          obtain ⟨i, hi⟩ := List.getElem?_of_mem hr
          have := rOk_true ((nOk_true hn).2.2.2 i r hi)
          omega⟩) ho
        have hod := order_is (hs := hs) hg hsp hin hD v
        rw [hO] at hod
        have hbo : Quo.both O 1 t l = decide (-1000000000 ≤ O ∧ O ≤ 1000000000) := by unfold Quo.both; rw [v.1, Quo.qv_whole_eq, Bool.and_true]
        have HH := Lib.hid (And.intro hod hbo)
        have HT : ∀ j, j < k → Quo.Val (Quo.T (hT n rs j) (dT n rs)) (Quo.L (hT n rs j) (dT n rs)) (hT n rs j) (dT n rs) := fun j hj => Quo.Val.of hD (okH_true.1 (adj_true ha HNn.out).2 j (by have := HNn.out; omega))
        have HTT := Lib.hid (And.intro HT (And.intro hD hh))
        clear ha hO hg hin ho hwn hod hbo v hsp hD HT hn hh
        go_upto_region 9 with ((go_at_call 22; (with_reducible refine ((c3 _ ?_).out).mono ?_); (focus ((exact HR.out.below hb_ts); done)); rintro e wi ⟨rfl, hb_wi⟩; have hs_wi := hb_wi.size; (try simp at hs_wi)))
        have hX := Cell2.new wi t l 31
        have hBd := hb_ts.trans ((hb_wi.trans (((Below.refl _ _).alloc (Nat.le_refl _) _ : Below wi.heap.size wi (wi.alloc (.cells #[.int .i64 t, .int .i64 l] 31))).mono hs_wi)).mono hs_ts)
        obtain ⟨V, hV⟩ : ∃ V, V = wi.alloc (.cells #[.int .i64 t, .int .i64 l] 31) := ⟨_, rfl⟩
        obtain ⟨XV, hXe⟩ : ∃ X, X = wi.heap.size := ⟨_, rfl⟩
        rw [← hV] at hX hBd ⊢
        rw [← hXe] at hX ⊢
        have HV := Lib.hid (And.intro hX hBd)
        clear hX hBd hV hXe hb_wi hs_wi

        go_upto_region 12 with ((go_at_call 12; (with_reducible refine ((c4 _ ?_).out).mono ?_); (focus ((exact HR.out.below HV.out.2); done)); rintro e wj ⟨gj, dj, rfl, hgj, oj, hb_wj⟩; have hs_wj := hb_wj.size; (try simp at hs_wj)))
        have hdj := HV.out.2.trans (hb_wj.mono HV.out.2.size)
        have HBj := Lib.hid (hb_wd.trans (hdj.mono hs_wd))
        have hsj := HBj.out.size
        have HIj := Lib.hid (HI.out.below hdj)
        have HQj := Lib.hid oj.quos
        obtain ⟨z1, z2, z3, z4⟩ := HV.out.1.below hb_wj
        clear HV HR HI hdj hb_wj hs_wj hb_ts hs_ts hb_wd oj hgj c3 c4
        by_cases hO9 : O ≤ 1000000000
        · have hb1 : Quo.both O 1 t l = true := by rw [HH.out.2]; simp; omega
          have c5 := fun w => Lib.hid (by have := iOrder_any O 1 t l w; rw [hb1] at this; exact this)
          have e5 : Quo.gS true (O * l - t * 1) = if sameTo n rs hs (n + 1) = true then 0 else 1 := HH.out.1
          rw [e5] at c5
          obtain ⟨od, hod⟩ : ∃ x : Int, (if sameTo n rs hs (n + 1) = true then (0 : Int) else 1) = x := ⟨_, rfl⟩
          rw [hod] at c5
          have HOD := Lib.hid hod
          clear hod e5 hb1 HH
          apply ways_w (V := wj)
          · intro REST
            go_region_with (first
              | (go_at_call 15; (with_reducible refine (whole_q _ _).mono ?_); rintro e w1 ⟨rfl, hb_w1⟩; have hV1 : Below wj.heap.size wj w1 := (below_drew (Below.refl _ _)).trans hb_w1; have l1 := cell_below_keep hV1 z1; have l2 := cell_below_keep hV1 z2)
              | (go_at_call 23; (with_reducible refine ((c5 _).out).mono ?_); rintro e w2 ⟨rfl, hb_w2⟩; have hV2 : Below wj.heap.size wj w2 := hV1.trans (hb_w2.mono hV1.size)))
            all_goals
              refine gen_exitE (fun W => Below wj.heap.size wj W) hV2 (fun W hW => ?_)
              exact REST W hW
          · intro W hV2
            have HBW := Lib.hid (HBj.out.trans (hV2.mono hsj))
            have hsW := HBW.out.size
            have HIW := Lib.hid (HIj.out.below hV2)
            have HQW := Lib.hid (HQj.out.below hV2)
            clear hV2 HBj HIj HQj z1 z2 z3 z4 c5
            go_wp2_with fail
            go_loopw [14, 15] (fun b i wr => ∃ j : Nat, j ≤ k ∧ i = .int .i64 j ∧ b = .bool (sameTo n rs hs j) ∧ Below W.heap.size W wr) (fun _ i _ => k - (intOf i).toNat)
            case atStart => exact ⟨0, Nat.zero_le _, rfl, rfl, Below.refl _ _⟩
            case round =>
              rename World => wr
              obtain ⟨j, hj, rfl, rfl, hbr⟩ := hrel
              by_cases hlt : j < k
              · obtain ⟨u, y, co, c6, hy1, hsm⟩ := take_is HTT.out.2.2 HTT.out.2.1 (HTT.out.1 j hlt)
                have b1 := htOk_low HTT.out.2.2 (j : Int)
                have b2 := htOk_low HTT.out.2.2 (0 : Int)
                have e1 : htAt hs (j : Int) = at0 hs j := by unfold htAt at0; rw [Int.toNat_natCast]
                have e2 : htAt hs 0 = at0 hs 0 := rfl
                rw [e1] at b1
                rw [e2] at b2
                have xj := ints_at (HIW.out.below hbr) (j := j) (by have := HK.out; omega)
                have x0 := ints_at (HIW.out.below hbr) (j := 0) (by have := HK.out; omega)
                rw [Nat.add_zero] at x0
                obtain ⟨B', o', qx, he, hx, hB, qa, qb⟩ := (HQW.out.below hbr).at (i := j) (by rw [hqs_len]; exact hlt)
                cases he
                rw [hqs_at hlt] at hx
                cases hx
                simp only [Nat.zero_add] at qa qb
                obtain ⟨X, hX⟩ : ∃ X, at0 hs j = X := ⟨_, rfl⟩
                obtain ⟨Z, hZ⟩ : ∃ X, at0 hs 0 = X := ⟨_, rfl⟩
                obtain ⟨TT, hTe⟩ : ∃ X, Quo.T (hT n rs j) (dT n rs) = X := ⟨_, rfl⟩
                obtain ⟨LL, hLe⟩ : ∃ X, Quo.L (hT n rs j) (dT n rs) = X := ⟨_, rfl⟩
                rw [hX, hZ, hTe, hLe] at c6
                rw [hX] at xj b1
                rw [hZ] at x0 b2
                rw [hTe] at qa
                rw [hLe] at qb
                have qw : IntKind.i64.wrap (X - Z) = X - Z := by rw [IntKind.wrap_i64]; omega
                have hss := sameTo_succ n rs hs j
                rw [hsm] at hss
                obtain ⟨sj, hsj'⟩ : ∃ b, sameTo n rs hs j = b := ⟨_, rfl⟩
                rw [hsj'] at hss ⊢
                have HS := Lib.hid (And.intro hss hy1)
                have hx0l := World.block_lt_of_cell? wr _ x0
                have hqal := World.block_lt_of_cell? wr _ qa
                have hjk : (j : Int) < (k : Int) := by omega
                have HBR := Lib.hid hbr
                have hk0 : (0 : Int) < (k : Int) := by omega
                clear hsm hss hy1 hsj' hX hZ hTe hLe e1 e2 b1 b2 hbr hB
                have hk0n : 0 < k := by omega
                go_upto_region 19 with fail
                apply ways_cell (x := u) (y := y) (V := wr)
                · intro REST
                  go_region_held3 (fun W => W.cell? ⟨Bq, oq + j, none⟩ = some (.int .i64 X) ∧ W.cell? ⟨Bq, oq, none⟩ = some (.int .i64 Z) ∧ W.cell? ⟨gj, j * 2, none⟩ = some (.int .i64 TT) ∧ W.cell? ⟨gj, j * 2 + 1, none⟩ = some (.int .i64 LL)) (first | (go_keep; done) | (refine ⟨?_, ?_, ?_, ?_⟩ <;> (first | ((with_reducible refine cell_below_keep (by with_reducible assumption) ?_); with_reducible assumption) | ((with_reducible refine cell_set_keep _ ?_ ?_); (focus (dsimp only; omega)); (with_reducible refine cell_set_keep _ ?_ ?_); (focus (dsimp only; omega)); with_reducible assumption)))) (first
                    | (go_at_call 15; (with_reducible refine (whole_q _ _).mono ?_); rintro e w1 ⟨rfl, hb_w1⟩; (first | (have hV1 : Below wr.heap.size wr w1 := (below_drew (Below.refl _ _)).trans hb_w1; have a0 := cell_below_keep hV1 xj; have b0 := World.block_lt_of_cell? _ _ a0; have a1 := cell_below_keep hV1 x0; have b1 := World.block_lt_of_cell? _ _ a1; have a2 := cell_below_keep hV1 qa; have b2 := World.block_lt_of_cell? _ _ a2; have a3 := cell_below_keep hV1 qb; have b3 := World.block_lt_of_cell? _ _ a3) | (have hV1 : Below wr.heap.size wr w1 := ((below_drew (Below.refl wr.heap.size wr)).alloc (Nat.le_refl _) (.cells #[.int .i64 0, .int .i64 0] 31)).trans (hb_w1.mono (by simp)); have a0 := cell_below_keep hV1 xj; have b0 := World.block_lt_of_cell? _ _ a0; have a1 := cell_below_keep hV1 x0; have b1 := World.block_lt_of_cell? _ _ a1; have a2 := cell_below_keep hV1 qa; have b2 := World.block_lt_of_cell? _ _ a2; have a3 := cell_below_keep hV1 qb; have b3 := World.block_lt_of_cell? _ _ a3; obtain ⟨y1, y2, y3, y4⟩ := (Cell2.new wr.drew 0 0 31).below hb_w1)))
                    | (go_at_call 24; (with_reducible refine ((c6 _).out).mono ?_); rintro e w2 ⟨rfl, hb_w2⟩; (first | (have hY := (show Cell2 w1 wr.heap.size 0 0 from ⟨y1, y2, y3, y4⟩).below hb_w2; have hV2 : Below wr.heap.size wr w2 := hV1.trans (hb_w2.mono hV1.size); have a0 := cell_below_keep hV2 xj; have b0 := World.block_lt_of_cell? _ _ a0; have a1 := cell_below_keep hV2 x0; have b1 := World.block_lt_of_cell? _ _ a1; have a2 := cell_below_keep hV2 qa; have b2 := World.block_lt_of_cell? _ _ a2; have a3 := cell_below_keep hV2 qb; have b3 := World.block_lt_of_cell? _ _ a3; obtain ⟨y1, y2, y3, y4⟩ := hY) | (have hV2 : Below wr.heap.size wr w2 := hV1.trans (hb_w2.mono hV1.size); have a0 := cell_below_keep hV2 xj; have b0 := World.block_lt_of_cell? _ _ a0; have a1 := cell_below_keep hV2 x0; have b1 := World.block_lt_of_cell? _ _ a1; have a2 := cell_below_keep hV2 qa; have b2 := World.block_lt_of_cell? _ _ a2; have a3 := cell_below_keep hV2 qb; have b3 := World.block_lt_of_cell? _ _ a3) | (have hV2 : Below wr.heap.size wr w2 := (hV1.alloc hV1.size (.cells #[.int .i64 0, .int .i64 0] 31)).trans (hb_w2.mono (by have := hV1.size; simp; omega)); have a0 := cell_below_keep hV2 xj; have b0 := World.block_lt_of_cell? _ _ a0; have a1 := cell_below_keep hV2 x0; have b1 := World.block_lt_of_cell? _ _ a1; have a2 := cell_below_keep hV2 qa; have b2 := World.block_lt_of_cell? _ _ a2; have a3 := cell_below_keep hV2 qb; have b3 := World.block_lt_of_cell? _ _ a3; obtain ⟨y1, y2, y3, y4⟩ := (Cell2.new w1 0 0 31).below hb_w2))))
                  all_goals
                    first
                    | (have hYA := Cell2.new w2 u y 31; have hBA : Below wr.heap.size wr (w2.alloc (.cells #[.int .i64 u, .int .i64 y] 31)) := hV2.alloc hV2.size _; obtain ⟨Y, hYe⟩ : ∃ Y, w2.heap.size = Y := ⟨_, rfl⟩; rw [hYe] at hYA ⊢; refine gen_exitE (fun W => Cell2 W Y u y ∧ Below wr.heap.size wr W) ⟨hYA, hBA⟩ (fun W hW => ?_); exact REST Y W hW.1 hW.2)
                    | (have hYA := (show Cell2 w2 wr.heap.size 0 0 from ⟨y1, y2, y3, y4⟩).set u y; have hBA : Below wr.heap.size wr ((w2.setCell ⟨wr.heap.size, 0, none⟩ (.int .i64 u)).setCell ⟨wr.heap.size, 1, none⟩ (.int .i64 y)) := (hV2.setCell (Nat.le_refl _) _).setCell (Nat.le_refl _) _; refine gen_exitE (fun W => Cell2 W wr.heap.size u y ∧ Below wr.heap.size wr W) ⟨hYA, hBA⟩ (fun W hW => ?_); obtain ⟨hW1, hW2⟩ := hW; obtain ⟨Y, hYe⟩ : ∃ Y, wr.heap.size = Y := ⟨_, rfl⟩; rw [hYe] at hW1 ⊢; exact REST Y W hW1 hW2)
                    | (have hYA := (show Cell2 w2 w1.heap.size 0 0 from ⟨y1, y2, y3, y4⟩).set u y; have hBA : Below wr.heap.size wr ((w2.setCell ⟨w1.heap.size, 0, none⟩ (.int .i64 u)).setCell ⟨w1.heap.size, 1, none⟩ (.int .i64 y)) := (hV2.setCell (hV1.size) _).setCell (hV1.size) _; refine gen_exitE (fun W => Cell2 W w1.heap.size u y ∧ Below wr.heap.size wr W) ⟨hYA, hBA⟩ (fun W hW => ?_); obtain ⟨hW1, hW2⟩ := hW; obtain ⟨Y, hYe⟩ : ∃ Y, w1.heap.size = Y := ⟨_, rfl⟩; rw [hYe] at hW1 ⊢; exact REST Y W hW1 hW2)
                · intro Y W2 hY hBW
                  obtain ⟨y1, y2, y3, y4⟩ := hY
                  have HBW2 := Lib.hid (HBR.out.trans (hBW.mono HBR.out.size))
                  have hsW2 := HBW2.out.size
                  have hYl := World.block_lt_of_cell? W2 _ y1
                  clear xj x0 qa qb c6 hx0l hqal HBR hBW
                  go_upto_region 20 with fail
                  cases sj
                  · have hund : undef = Value.tuple #[] := rfl
                    have HE : Hid (sameTo n rs hs (j + 1) = false) := Lib.hid HS.out.1
                    first
                      | go_region_with fail
                      | fail
                    all_goals
                      go_wp2_with fail
                      go_roundw
                      case rel => exact ⟨j + 1, by omega, by go_num, by rw [HE.out], below_drew HBW2.out⟩
                      case measure => simp [intOf]; omega
                  · cases co
                    · have hund : undef = Value.tuple #[] := rfl
                      have HE : Hid (sameTo n rs hs (j + 1) = false) := Lib.hid HS.out.1
                      first
                        | go_region_with fail
                        | fail
                      all_goals
                        go_wp2_with fail
                        go_roundw
                        case rel => exact ⟨j + 1, by omega, by go_num, by rw [HE.out], below_drew HBW2.out⟩
                        case measure => simp [intOf]; omega
                    · have HE : Hid (sameTo n rs hs (j + 1) = decide (u = 0)) := Lib.hid (by have := HS.out.1; simpa using this)
                      by_cases hu : u = 0
                      · obtain rfl := HS.out.2 rfl hu
                        subst hu
                        have HE2 : Hid (sameTo n rs hs (j + 1) = true) := Lib.hid HE.out
                        clear HE HS
                        first
                          | go_region_held3 (fun W => W.cell? ⟨Y, 0, none⟩ = some (.int .i64 0) ∧ W.cell? ⟨Y, 1, none⟩ = some (.int .i64 1)) (first | (go_keep; done) | (refine ⟨?_, ?_⟩ <;> (first | ((with_reducible refine cell_below_keep (by with_reducible assumption) ?_); with_reducible assumption) | ((with_reducible refine cell_set_keep _ ?_ ?_); (focus (dsimp only; omega)); (with_reducible refine cell_set_keep _ ?_ ?_); (focus (dsimp only; omega)); with_reducible assumption)))) (first | (go_at_call 15; (with_reducible refine (whole_q _ _).mono ?_); rintro e w1 ⟨rfl, hb_w1⟩; have hV1 : Below W2.heap.size W2 w1 := (below_drew (Below.refl _ _)).trans hb_w1; have l1 := cell_below_keep hV1 y1; have l2 := cell_below_keep hV1 y2; have k1 := World.block_lt_of_cell? _ _ l1))
                          | fail
                        all_goals
                          have HBX := Lib.hid (HBW2.out.trans (hV1.mono hsW2))
                          go_wp2_with fail
                          go_roundw
                          case rel => exact ⟨j + 1, by omega, by go_num, by rw [HE2.out], HBX.out⟩
                          case measure => simp [intOf]; omega
                      · have hu' : (u == 0) = false := by simpa using hu
                        have HE : Hid (sameTo n rs hs (j + 1) = false) := Lib.hid (by rw [HE.out]; simpa using hu)
                        first
                          | go_region_held3 (fun W => W.cell? ⟨Y, 0, none⟩ = some (.int .i64 u) ∧ W.cell? ⟨Y, 1, none⟩ = some (.int .i64 y)) (first | (go_keep; done) | (refine ⟨?_, ?_⟩ <;> (first | ((with_reducible refine cell_below_keep (by with_reducible assumption) ?_); with_reducible assumption) | ((with_reducible refine cell_set_keep _ ?_ ?_); (focus (dsimp only; omega)); (with_reducible refine cell_set_keep _ ?_ ?_); (focus (dsimp only; omega)); with_reducible assumption)))) (first | (go_at_call 15; (with_reducible refine (whole_q _ _).mono ?_); rintro e w1 ⟨rfl, hb_w1⟩; have hV1 : Below W2.heap.size W2 w1 := (below_drew (Below.refl _ _)).trans hb_w1; have l1 := cell_below_keep hV1 y1; have l2 := cell_below_keep hV1 y2; have k1 := World.block_lt_of_cell? _ _ l1))
                          | fail
                        all_goals
                          have HBX := Lib.hid (HBW2.out.trans (hV1.mono hsW2))
                          go_wp2_with fail
                          go_roundw
                          case rel => exact ⟨j + 1, by omega, by go_num, by rw [HE.out], HBX.out⟩
                          case measure => simp [intOf]; omega
              · have e : j = k := by omega
                subst e
                have HX := Lib.hid (HBW.out.trans (hbr.mono hsW))
                have hkn := HNn.out
                have hod := HOD.out
                rw [← hkn] at hod
                cases hb : sameTo n rs hs j
                · rw [hb] at hod
                  obtain rfl : (1 : Int) = od := by simpa using hod
                  clear hbr HOD hod
                  go_wp2_with fail
                  exact bodyPost_ret (v := .bool true) (by simp [results, Tryd.results4, go_sem]) rfl ⟨rfl, HX.out⟩
                · rw [hb] at hod
                  obtain rfl : (0 : Int) = od := by simpa using hod
                  clear hbr HOD hod
                  go_wp2_with fail
                  exact bodyPost_ret (v := .bool true) (by simp [results, Tryd.results4, go_sem]) rfl ⟨rfl, HX.out⟩
        · have hO9' : 1000000000 < O := by omega
          have hb1 : Quo.both O 1 t l = false := by rw [HH.out.2]; simp; omega
          have c5 := fun w => Lib.hid (by have := iOrder_any O 1 t l w; rw [hb1] at this; exact this)
          obtain ⟨od, hod⟩ : ∃ x : Int, Quo.gS false (O * l - t * 1) = x := ⟨_, rfl⟩
          rw [hod] at c5
          clear hod hb1 HH
          go_region_with (first
            | (go_at_call 15; (with_reducible refine (whole_q _ _).mono ?_); rintro e w1 ⟨rfl, hb_w1⟩; have hV1 : Below wj.heap.size wj w1 := (below_drew (Below.refl _ _)).trans hb_w1; have l1 := cell_below_keep hV1 z1; have l2 := cell_below_keep hV1 z2)
            | (go_at_call 23; (with_reducible refine ((c5 _).out).mono ?_); rintro e w2 ⟨rfl, hb_w2⟩; have hV2 : Below wj.heap.size wj w2 := hV1.trans (hb_w2.mono hV1.size)))
          all_goals
            have HBW := Lib.hid (HBj.out.trans (hV2.mono hsj))
            clear hV2 hb_w2 hV1 hb_w1 HBj HIj HQj
            go_wp2_with fail
            exact bodyPost_ret (v := .bool true) (by simp [results, Tryd.results4, go_sem]) rfl ⟨rfl, HBW.out⟩
  · have c1 := fun w h1 h2 => Lib.hid (iTry_no N (some ⟨P, 0, none⟩) (some Q) c d m k rs hs w h1 h2 HM.out HK.out (by omega) (by omega) hy)
    have c2 := fun w h1 h2 => Lib.hid (sTry_no N (some ⟨P, 0, none⟩) (some Q) c d m k rs hs w h1 h2 HM.out HK.out (by omega) (by omega) hy)
    clear hy
    go_wp2_with (first | (go_at_call 20; (with_reducible refine ((c1 _ ?_ ?_).out).mono ?_); (focus ((exact (HR.out).runs); done)); (focus ((exact HI.out); done)); rintro e wt ⟨rfl, hb_wt⟩; have hs_wt := hb_wt.size; (try simp at hs_wt)) | (go_at_call 21; (with_reducible refine ((c2 _ ?_ ?_).out).mono ?_); (focus ((exact (HR.out.below hb_wt).runs); done)); (focus ((exact HI.out.below hb_wt); done)); rintro e ws ⟨rfl, hb_ws⟩; have hs_ws := hb_ws.size; (try simp at hs_ws)))
    exact bodyPost_ret (v := .bool true) (by simp [results, Tryd.results4, go_sem]) rfl ⟨rfl, (by repeat (first | assumption | exact Below.refl _ _ | (refine below_chain ?_ (by assumption) (by first | omega | (simp <;> omega) | simp)) | (refine Below.alloc ?_ (by first | omega | (simp <;> omega) | simp) _) | (apply below_drewN) | (apply below_drew) | (refine Below.setCell ?_ (by first | omega | (simp <;> omega) | simp) _)))⟩

end Go.Proofs.YtoaomjchaihkaaaDoor.fnAdjustLeast
