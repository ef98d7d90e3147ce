/-
  For every code the law FnAdjustTwo returns true: impl.AdjustRun answers as the reference model does; two runs of the same weight between two nodes, the second's rise the greater by 6, have the adjusted rise in the middle; and a quotient's lower number is positive. Condition: the package's error variable holds the error that its initialiser lays (the card ties that to the program's text, pruned to the packages that the law loads); every list of bytes is taken.
-/
import Derived.Test.YtoaomjchaihkaaaDoorEl
import Derived.Test.YtoaomjchaihkaaaDoorDNs
import Derived.Test.YtoaomjchaihkaaaDoorZn
import Derived.Test.YtoaomjchaihkaaaDoorCode
namespace Go.Proofs.YtoaomjchaihkaaaDoor.fnAdjustTwo
open Go.ChangeShapes Go.WideShapes Go.ChangeAt Go.RowKit
set_option linter.unusedVariables false

def pr (s g : Int) : List Rn := [⟨0, 1, s, g⟩, ⟨0, 1, s + 6, g⟩]
theorem pr_low {s g : Int} (h1 : -100000 ≤ s) (h2 : s + 6 ≤ 100000) (h3 : 1 ≤ g) (h4 : g ≤ 9) : nOk ((2 : Nat) : Int) (pr s g) = true := by
  unfold nOk rOk pr
  simp
  omega
theorem pr_high {s g : Int} (h : 100000 < s + 6) : nOk ((2 : Nat) : Int) (pr s g) = false := by
  cases hb : nOk ((2 : Nat) : Int) (pr s g) with
  | false => rfl
  | true =>
    have := rOk_true ((nOk_true hb).2.2.2 1 ⟨0, 1, s + 6, g⟩ rfl)
    simp only [] at this
    omega
theorem pr_is {s g : Int} (h1 : -100000 ≤ s) (h2 : s + 6 ≤ 100000) (h3 : 1 ≤ g) (h4 : g ≤ 9) :
    adjOk ((2 : Nat) : Int) (pr s g) = true ∧ Quo.qO (hT 1 (pr s g) 1 - hT 1 (pr s g) 0) (dT 1 (pr s g)) = true ∧ vT (hT 1 (pr s g) 1 - hT 1 (pr s g) 0) (dT 1 (pr s g)) = s + 3 ∧ vL (hT 1 (pr s g) 1 - hT 1 (pr s g) 0) (dT 1 (pr s g)) = 1 := by
  have hn := pr_low h1 h2 h3 h4
  have hw : nWhole ((2 : Nat) : Int) (pr s g) = true := (whole_spn hn).2 (fun φ he hs i hi => by
    have h0 : ¬ φ 0 := hs 0 (by omega) rfl
    have h01 : φ 0 ↔ φ 1 := he ⟨0, 1, s, g⟩ (by simp [pr])
    have : i = 0 ∨ i = 1 := by omega
    rcases this with rfl | rfl
    · exact h0
    · exact fun h => h0 (h01.2 h))
  have hD : 0 < dT 1 (pr s g) := dT_pos hw hn
  have hin : InN (1 + 1) (pr s g) := nOk_in hn
  have hs : Solves 1 (pr s g) 1 (fun i => if i = 1 then s + 3 else 0) := Solves.of hin rfl (fun i hi => by
    obtain rfl : i = 0 := by omega
    unfold bal pr
    simp [lsm, inc]
    have e1 : s + 3 - s = 3 := by omega
    have e2 : s + 3 - (s + 6) = -3 := by omega
    rw [e1, e2]; omega)
  have h1' : hT 1 (pr s g) 1 = (s + 3) * dT 1 (pr s g) := by
    have := hs.all rfl (j := 1) (by omega)
    simp at this
    rw [← this, Int.mul_comm]
  have h0' : hT 1 (pr s g) 0 = 0 := rfl
  have v := Quo.Val.whole (x := s + 3) (D := dT 1 (pr s g)) (by omega) (by omega) (by omega)
  have v0 := Quo.Val.whole (x := 0) (D := dT 1 (pr s g)) (by omega) (by omega) (by omega)
  rw [Int.zero_mul] at v0
  rw [h1', h0', Int.sub_zero]
  refine ⟨?_, v.ok, by unfold vT; rw [if_pos v.ok]; exact v.TL.1, by unfold vL; rw [if_pos v.ok]; exact v.TL.2⟩
  unfold adjOk
  rw [hw]
  refine (Bool.true_and _).trans (okH_true.2 (fun j hj => ?_))
  have : j = 0 ∨ j = 1 := by have : ((2 : Nat) : Int).toNat - 1 = 1 := rfl; omega
  rcases this with rfl | rfl
  · exact v0.ok
  · show Quo.qO (hT 1 (pr s g) 1) (dT 1 (pr s g)) = true
    rw [h1']; exact v.ok
theorem pr_runs (w : World) (s g : Int) (T : TypeId) : Runs (w.alloc (.cells #[.int .i64 0, .int .i64 1, .int .i64 s, .int .i64 g, .int .i64 0, .int .i64 1, .int .i64 (s + 6), .int .i64 g] T)) (some ⟨w.heap.size, 0, none⟩) (pr s g) := by
  refine .inr ⟨w.heap.size, 0, rfl, by simp [go_sem], fun i r h => ?_⟩
  match i with
  | 0 => obtain rfl : (⟨0, 1, s, g⟩ : Rn) = r := by simpa [pr] using h
         unfold RunAt; simp [go_sem]
  | 1 => obtain rfl : (⟨0, 1, s + 6, g⟩ : Rn) = r := by simpa [pr] using h
         unfold RunAt; simp [go_sem]
  | i + 2 => simp [pr] at h

set_option maxHeartbeats 8000000 in
set_option maxRecDepth 100000 in
theorem walk (len cap : Nat) (p : Option Addr) (w : World) (hl : len ≤ 1048576) (h : Hid (Code' w (.slice p len cap))) (he : Hid (ErrV w)) :
    Calls Tryd.prog 7 #[.slice p len cap] w fun e w' => e = .returned (.bool true) ∧ Below w.heap.size w w' := by
  have hl' : ¬ (1048576 : Int) < (len : Int) := by omega
  go_enter Tryd.func7, Tryd.ntmps7
  go_upto_region 4 with (go_at_call 30; (with_reducible refine (drawAdjRun_is _ _ h).mono ?_); rintro e wd ⟨N, m, rs, B, k, ⟨c, hmc, rfl⟩, ⟨⟨hmm, ⟨hN2, hN6⟩, hm8, hns⟩, hR, hb_wd⟩, hk1, hk2⟩; have hs_wd := hb_wd.size; have HR := Lib.hid (show RunsE _ _ _ from ⟨hR, he.out.below hb_wd⟩); have HM := Lib.hid hmm; clear hR)
  clear h hns hmm
  by_cases hy : adjOk (N : Int) rs = true ∧ 0 ≤ k ∧ k < m
  · obtain ⟨j, r, rfl, hj, hr⟩ := hasRun_nat (rs := rs) (k := k) ⟨hy.2.1, by have := HM.out; omega⟩
    obtain ⟨n, hNn⟩ : ∃ n, N = n + 1 := ⟨N - 1, by omega⟩
    obtain ⟨hw, hok⟩ := adj_true hy.1 hNn
    have hn := (whole_iff.1 hw).1
    have hro := rOk_true ((nOk_true hn).2.2.2 j r hr)
    have hD0 : 0 < dT n rs := dT_pos (by rw [← hNn]; exact hw) (by rw [← hNn]; exact hn)
    have hjm : j < m := by rw [← HM.out]; exact hj
    have hjm' : (j : Int) < (m : Int) := by omega
    have c1 := fun w h => Lib.hid (iRun_yes N n j (some ⟨B, 0, none⟩) c m rs r w h hy.1 HM.out hNn hr)
    have c2 := fun w h => Lib.hid (sRun_yes N n j (some ⟨B, 0, none⟩) c m rs r w h hy.1 HM.out hNn hr)
    cases hb : Quo.qO (hT n rs r.t.toNat - hT n rs r.f.toNat) (dT n rs)
    · obtain ⟨x, hx⟩ : ∃ x, vT (hT n rs r.t.toNat - hT n rs r.f.toNat) (dT n rs) = x := ⟨_, rfl⟩
      obtain ⟨y, hy'⟩ : ∃ x, vL (hT n rs r.t.toNat - hT n rs r.f.toNat) (dT n rs) = x := ⟨_, rfl⟩
      rw [hx, hy', hb] at c1 c2
      clear hy hr hNn hw hok hn hro hD0 hb hx hy'
      go_upto_region 5 with ((go_at_call 27; (with_reducible refine ((c1 _ ?_).out).mono ?_); (focus ((exact HR.out); done)); rintro e wi ⟨rfl, hb_wi⟩; have hs_wi := hb_wi.size; (try simp at hs_wi)))
      have hX := Cell2.new wi x y 31
      have hal : Below wi.heap.size wi (wi.alloc (.cells #[.int .i64 x, .int .i64 y] 31)) := (Below.refl _ _).alloc (Nat.le_refl _) _
      have hBd := hb_wi.trans (hal.mono hs_wi)
      obtain ⟨V, hV⟩ : ∃ V, V = wi.alloc (.cells #[.int .i64 x, .int .i64 y] 31) := ⟨_, rfl⟩
      obtain ⟨XV, hXe⟩ : ∃ X, X = wi.heap.size := ⟨_, rfl⟩
      rw [← hV] at hX hBd ⊢
      rw [← hXe] at hX ⊢
      have HV := Lib.hid (And.intro hX hBd)
      clear hal hX hBd hV hXe hb_wi hs_wi
      go_upto_region 6 with ((go_at_call 31; (with_reducible refine ((c2 _ ?_).out).mono ?_); (focus ((exact (HR.out.below HV.out.2).runs); done)); rintro e wi ⟨rfl, hb_wi⟩; have hs_wi := hb_wi.size; (try simp at hs_wi)))
      have hX := Cell2.new wi x y 31
      have hal : Below wi.heap.size wi (wi.alloc (.cells #[.int .i64 x, .int .i64 y] 31)) := (Below.refl _ _).alloc (Nat.le_refl _) _
      have hBd := hb_wi.trans (hal.mono hs_wi)
      obtain ⟨U, hV⟩ : ∃ V, V = wi.alloc (.cells #[.int .i64 x, .int .i64 y] 31) := ⟨_, rfl⟩
      obtain ⟨XU, hXe⟩ : ∃ X, X = wi.heap.size := ⟨_, rfl⟩
      rw [← hV] at hX hBd ⊢
      rw [← hXe] at hX ⊢
      have HU := Lib.hid (And.intro hX hBd)
      clear hal hX hBd hV hXe hb_wi hs_wi
      obtain ⟨x1, x2, x3, x4⟩ := HV.out.1.below HU.out.2
      obtain ⟨y1, y2, y3, y4⟩ := HU.out.1
      have hB : Below w.heap.size w U := hb_wd.trans ((HV.out.2.trans (HU.out.2.mono HV.out.2.size)).mono hs_wd)
      have HB := Lib.hid hB
      clear hB
      go_wp2_with fail
      exact bodyPost_ret (v := .bool true) (by simp [results, Tryd.results7, go_sem]) rfl ⟨rfl, HB.out⟩

    · have hLp : 0 < vL (hT n rs r.t.toNat - hT n rs r.f.toNat) (dT n rs) := by unfold vL; rw [if_pos hb]; exact Quo.L_pos0 (by omega)
      obtain ⟨x, hx⟩ : ∃ x, vT (hT n rs r.t.toNat - hT n rs r.f.toNat) (dT n rs) = x := ⟨_, rfl⟩
      obtain ⟨y, hy'⟩ : ∃ x, vL (hT n rs r.t.toNat - hT n rs r.f.toNat) (dT n rs) = x := ⟨_, rfl⟩
      rw [hx, hy', hb] at c1 c2
      rw [hy'] at hLp
      obtain ⟨B', o', r', heq, hr', hBl, hG0, hG1, hG2, hG3⟩ := HR.out.runs.at (i := j) hj
      cases heq
      obtain rfl : r = r' := by rw [hr] at hr'; cases hr'; rfl
      rw [Nat.zero_add] at hG0 hG1 hG2 hG3
      have hs1 : -100000 ≤ r.s := by omega
      have hs2 : r.s ≤ 100000 := by omega
      have hg1 : 1 ≤ r.g := by omega
      have hg2 : r.g ≤ 9 := by omega
      clear hy hr hr' hNn hw hok hn hro hD0 hb hx hy'
      go_upto_region 5 with ((go_at_call 27; (with_reducible refine ((c1 _ ?_).out).mono ?_); (focus ((exact HR.out); done)); rintro e wi ⟨rfl, hb_wi⟩; have hs_wi := hb_wi.size; (try simp at hs_wi)))
      have hX := Cell2.new wi x y 31
      have hal : Below wi.heap.size wi (wi.alloc (.cells #[.int .i64 x, .int .i64 y] 31)) := (Below.refl _ _).alloc (Nat.le_refl _) _
      have hBd := hb_wi.trans (hal.mono hs_wi)
      obtain ⟨V, hV⟩ : ∃ V, V = wi.alloc (.cells #[.int .i64 x, .int .i64 y] 31) := ⟨_, rfl⟩
      obtain ⟨XV, hXe⟩ : ∃ X, X = wi.heap.size := ⟨_, rfl⟩
      rw [← hV] at hX hBd ⊢
      rw [← hXe] at hX ⊢
      have HV := Lib.hid (And.intro hX hBd)
      clear hal hX hBd hV hXe hb_wi hs_wi
      go_upto_region 6 with ((go_at_call 31; (with_reducible refine ((c2 _ ?_).out).mono ?_); (focus ((exact (HR.out.below HV.out.2).runs); done)); rintro e wi ⟨rfl, hb_wi⟩; have hs_wi := hb_wi.size; (try simp at hs_wi)))
      have hX := Cell2.new wi x y 31
      have hal : Below wi.heap.size wi (wi.alloc (.cells #[.int .i64 x, .int .i64 y] 31)) := (Below.refl _ _).alloc (Nat.le_refl _) _
      have hBd := hb_wi.trans (hal.mono hs_wi)
      obtain ⟨U, hV⟩ : ∃ V, V = wi.alloc (.cells #[.int .i64 x, .int .i64 y] 31) := ⟨_, rfl⟩
      obtain ⟨XU, hXe⟩ : ∃ X, X = wi.heap.size := ⟨_, rfl⟩
      rw [← hV] at hX hBd ⊢
      rw [← hXe] at hX ⊢
      have HU := Lib.hid (And.intro hX hBd)
      clear hal hX hBd hV hXe hb_wi hs_wi
      obtain ⟨x1, x2, x3, x4⟩ := HV.out.1.below HU.out.2
      obtain ⟨y1, y2, y3, y4⟩ := HU.out.1
      have hdU := HV.out.2.trans (HU.out.2.mono HV.out.2.size)
      have hBU := hb_wd.trans (hdU.mono hs_wd)
      have HBU := Lib.hid hBU
      have hsU := hBU.size
      have d0 := cell_below_keep hdU hG0
      have d1 := cell_below_keep hdU hG1
      have d2 := cell_below_keep hdU hG2
      have d3 := cell_below_keep hdU hG3
      have HXV := Lib.hid (HV.out.1.below HU.out.2)
      clear hdU hBU HR HV HU c1 c2 hG0 hG1 hG2 hG3 hb_wd
      have q1 : IntKind.i64.wrap (r.s + 6) = r.s + 6 := by rw [IntKind.wrap_i64]; omega
      have q2 : IntKind.i64.wrap (r.s + 3) = r.s + 3 := by rw [IntKind.wrap_i64]; omega
      go_upto_region 10 with fail
      have hP : Runs ((U.alloc (.cells #[.int .i64 r.f, .int .i64 r.t, .int .i64 r.s, .int .i64 r.g] 36)).alloc (.cells #[.int .i64 0, .int .i64 1, .int .i64 r.s, .int .i64 r.g, .int .i64 0, .int .i64 1, .int .i64 (r.s + 6), .int .i64 r.g] 36)) (some ⟨U.heap.size + 1, 0, none⟩) (pr r.s r.g) := by
        have := pr_runs (U.alloc (.cells #[.int .i64 r.f, .int .i64 r.t, .int .i64 r.s, .int .i64 r.g] 36)) r.s r.g 36
        have e : (U.alloc (.cells #[.int .i64 r.f, .int .i64 r.t, .int .i64 r.s, .int .i64 r.g] 36)).heap.size = U.heap.size + 1 := by simp [go_sem]
        rw [e] at this
        exact this
      have hBd : Below U.heap.size U ((U.alloc (.cells #[.int .i64 r.f, .int .i64 r.t, .int .i64 r.s, .int .i64 r.g] 36)).alloc (.cells #[.int .i64 0, .int .i64 1, .int .i64 r.s, .int .i64 r.g, .int .i64 0, .int .i64 1, .int .i64 (r.s + 6), .int .i64 r.g] 36)) := (by repeat (first | assumption | exact Below.refl _ _ | (refine below_chain ?_ (by assumption) (by first | omega | (simp <;> omega) | simp)) | (refine Below.alloc ?_ (by first | omega | (simp <;> omega) | simp) _) | (apply below_drewN) | (apply below_drew) | (refine Below.setCell ?_ (by first | omega | (simp <;> omega) | simp) _)))
      have k2 : ((U.alloc (.cells #[.int .i64 r.f, .int .i64 r.t, .int .i64 r.s, .int .i64 r.g] 36)).alloc (.cells #[.int .i64 0, .int .i64 1, .int .i64 r.s, .int .i64 r.g, .int .i64 0, .int .i64 1, .int .i64 (r.s + 6), .int .i64 r.g] 36)).cell? ⟨U.heap.size, 2, none⟩ = some (.int .i64 r.s) := by simp [go_sem]
      obtain ⟨W, hW⟩ : ∃ W, W = (U.alloc (.cells #[.int .i64 r.f, .int .i64 r.t, .int .i64 r.s, .int .i64 r.g] 36)).alloc (.cells #[.int .i64 0, .int .i64 1, .int .i64 r.s, .int .i64 r.g, .int .i64 0, .int .i64 1, .int .i64 (r.s + 6), .int .i64 r.g] 36) := ⟨_, rfl⟩
      rw [← hW] at hP hBd k2 ⊢
      obtain ⟨X, hXe⟩ : ∃ X, X = U.heap.size := ⟨_, rfl⟩
      rw [← hXe] at hP k2 ⊢
      obtain ⟨G, hGe⟩ : ∃ G, G = X + 1 := ⟨_, rfl⟩
      rw [← hGe] at hP ⊢
      have HPW := Lib.hid hP
      have HXW := Lib.hid (HXV.out.below hBd)
      have hBB := HBU.out.trans (hBd.mono hsU)
      have HBW := Lib.hid hBB
      have hsW := hBB.size
      clear hBB hW hXe hGe hP HBU HXV hBd d0 d1 d2 d3 x1 x2 x3 x4 y1 y2 y3 y4 hsU
      by_cases hsr : r.s + 6 ≤ 100000
      · have hsr' : ¬ 100000 < r.s + 6 := by omega
        have c3 : ∀ w, RunsE w (some ⟨G, 0, none⟩) (pr r.s r.g) → Hid (Calls Tryd.prog 27 #[.int .i64 2, .slice (some ⟨G, 0, none⟩) 2 2, .int .i64 0] w fun e w' => e = .returned (.tuple #[.agg #[.int .i64 (r.s + 3), .int .i64 1], .bool true]) ∧ Below w.heap.size w w') := fun w h => Lib.hid (by
          obtain ⟨e1, e2, e3, e4⟩ := pr_is hs1 hsr hg1 hg2
          have := iRun_yes 2 1 0 (some ⟨G, 0, none⟩) 2 2 (pr r.s r.g) ⟨0, 1, r.s, r.g⟩ w h e1 rfl rfl rfl
          have this : Calls Tryd.prog 27 #[.int .i64 2, .slice (some ⟨G, 0, none⟩) 2 2, .int .i64 0] w fun e w' => e = .returned (.tuple #[.agg #[.int .i64 (vT (hT 1 (pr r.s r.g) 1 - hT 1 (pr r.s r.g) 0) (dT 1 (pr r.s r.g))), .int .i64 (vL (hT 1 (pr r.s r.g) 1 - hT 1 (pr r.s r.g) 0) (dT 1 (pr r.s r.g)))], .bool (Quo.qO (hT 1 (pr r.s r.g) 1 - hT 1 (pr r.s r.g) 0) (dT 1 (pr r.s r.g)))]) ∧ Below w.heap.size w w' := this
          rw [e2, e3, e4] at this
          exact this)
        go_upto_region 11 with ((go_at_call 27; (with_reducible refine ((c3 _ ?_).out).mono ?_); (focus ((exact ⟨HPW.out, he.out.below HBW.out⟩); done)); rintro e wi ⟨rfl, hb_wi⟩; have hs_wi := hb_wi.size; (try simp at hs_wi)))
        have hX := Cell2.new wi (r.s + 3) 1 31
        have hal : Below wi.heap.size wi (wi.alloc (.cells #[.int .i64 (r.s + 3), .int .i64 1] 31)) := (Below.refl _ _).alloc (Nat.le_refl _) _
        have hBd := hb_wi.trans (hal.mono hs_wi)
        obtain ⟨T, hV⟩ : ∃ V, V = wi.alloc (.cells #[.int .i64 (r.s + 3), .int .i64 1] 31) := ⟨_, rfl⟩
        obtain ⟨XT, hXe⟩ : ∃ X, X = wi.heap.size := ⟨_, rfl⟩
        rw [← hV] at hX hBd ⊢
        rw [← hXe] at hX ⊢
        have HT := Lib.hid (And.intro hX hBd)
        clear hal hX hBd hV hXe hb_wi hs_wi
        have hsT := HT.out.2.size
        have a1 := cell_below_keep HT.out.2 k2
        obtain ⟨t1, t2, t3, t4⟩ := HT.out.1
        obtain ⟨x1, x2, x3, x4⟩ := HXW.out.below HT.out.2
        have HBT := Lib.hid (HBW.out.trans (HT.out.2.mono hsW))
        have hsT2 := HBT.out.size
        clear HT HXW HBW HPW c3
        first
          | go_region_with (go_at_call 15; (with_reducible refine (whole_q _ _).mono ?_); rintro e w1 ⟨rfl, hb_w1⟩; have hV2 : Below T.heap.size T w1 := (below_drew (Below.refl _ _)).trans hb_w1; have l1 := cell_below_keep hV2 x1; have l2 := cell_below_keep hV2 x2; have l3 := cell_below_keep hV2 t1; have l4 := cell_below_keep hV2 t2; have l5 := cell_below_keep hV2 a1)
          | fail
        all_goals
          have HBB := Lib.hid (HBT.out.trans (hV2.mono hsT2))
          clear hV2 hb_w1
          go_wp2_with fail
          exact bodyPost_ret (v := .bool true) (by simp [results, Tryd.results7, go_sem]) rfl ⟨rfl, HBB.out⟩
      · have hsr' : 100000 < r.s + 6 := by omega
        have c3 : ∀ w, RunsE w (some ⟨G, 0, none⟩) (pr r.s r.g) → Hid (Calls Tryd.prog 27 #[.int .i64 2, .slice (some ⟨G, 0, none⟩) 2 2, .int .i64 0] w fun e w' => e = .returned (.tuple #[.agg #[.int .i64 0, .int .i64 0], .bool false]) ∧ Below w.heap.size w w') := fun w h => Lib.hid (iRun_no 2 0 (some ⟨G, 0, none⟩) 2 2 (pr r.s r.g) w h rfl (by omega) (fun hx => by
          have e1 : adjOk ((2 : Nat) : Int) (pr r.s r.g) = true := hx.1
          have := (whole_iff.1 (adj_true e1 (n := 1) rfl).1).1
          rw [pr_high hsr'] at this; cases this))
        go_upto_region 11 with ((go_at_call 27; (with_reducible refine ((c3 _ ?_).out).mono ?_); (focus ((exact ⟨HPW.out, he.out.below HBW.out⟩); done)); rintro e wi ⟨rfl, hb_wi⟩; have hs_wi := hb_wi.size; (try simp at hs_wi)))
        have hX := Cell2.new wi 0 0 31
        have hal : Below wi.heap.size wi (wi.alloc (.cells #[.int .i64 0, .int .i64 0] 31)) := (Below.refl _ _).alloc (Nat.le_refl _) _
        have hBd := hb_wi.trans (hal.mono hs_wi)
        obtain ⟨T, hV⟩ : ∃ V, V = wi.alloc (.cells #[.int .i64 0, .int .i64 0] 31) := ⟨_, rfl⟩
        obtain ⟨XT, hXe⟩ : ∃ X, X = wi.heap.size := ⟨_, rfl⟩
        rw [← hV] at hX hBd ⊢
        rw [← hXe] at hX ⊢
        have HT := Lib.hid (And.intro hX hBd)
        clear hal hX hBd hV hXe hb_wi hs_wi
        have a1 := cell_below_keep HT.out.2 k2
        have HBT := Lib.hid (HBW.out.trans (HT.out.2.mono hsW))
        have hsT2 := HBT.out.size
        clear HT HXW HBW HPW c3
        first
          | (have hund : undef = Value.tuple #[] := rfl; go_region_with fail)
          | fail
        all_goals
          have HBB := Lib.hid (HBT.out.trans ((below_drew (Below.refl T.heap.size T)).mono hsT2))
          go_wp2_with fail
          exact bodyPost_ret (v := .bool true) (by simp [results, Tryd.results7, go_sem]) rfl ⟨rfl, HBB.out⟩
  · have c1 := fun w h => Lib.hid (iRun_no N k (some ⟨B, 0, none⟩) c m rs w h HM.out (by omega) hy)
    have c2 := fun w h => Lib.hid (sRun_no N k (some ⟨B, 0, none⟩) c m rs w h HM.out (by omega) hy)
    clear hy
    go_upto_region 5 with ((go_at_call 27; (with_reducible refine ((c1 _ ?_).out).mono ?_); (focus ((exact HR.out); done)); rintro e wi ⟨rfl, hb_wi⟩; have hs_wi := hb_wi.size; (try simp at hs_wi)))
    have hX := Cell2.new wi 0 0 31
    have hal : Below wi.heap.size wi (wi.alloc (.cells #[.int .i64 0, .int .i64 0] 31)) := (Below.refl _ _).alloc (Nat.le_refl _) _
    have hBd := hb_wi.trans (hal.mono hs_wi)
    obtain ⟨V, hV⟩ : ∃ V, V = wi.alloc (.cells #[.int .i64 0, .int .i64 0] 31) := ⟨_, rfl⟩
    obtain ⟨XV, hXe⟩ : ∃ X, X = wi.heap.size := ⟨_, rfl⟩
    rw [← hV] at hX hBd ⊢
    rw [← hXe] at hX ⊢
    have HV := Lib.hid (And.intro hX hBd)
    clear hal hX hBd hV hXe hb_wi hs_wi
    go_upto_region 6 with ((go_at_call 31; (with_reducible refine ((c2 _ ?_).out).mono ?_); (focus ((exact (HR.out.below HV.out.2).runs); done)); rintro e wi ⟨rfl, hb_wi⟩; have hs_wi := hb_wi.size; (try simp at hs_wi)))
    have hX := Cell2.new wi 0 0 31
    have hal : Below wi.heap.size wi (wi.alloc (.cells #[.int .i64 0, .int .i64 0] 31)) := (Below.refl _ _).alloc (Nat.le_refl _) _
    have hBd := hb_wi.trans (hal.mono hs_wi)
    obtain ⟨U, hV⟩ : ∃ V, V = wi.alloc (.cells #[.int .i64 0, .int .i64 0] 31) := ⟨_, rfl⟩
    obtain ⟨XU, hXe⟩ : ∃ X, X = wi.heap.size := ⟨_, rfl⟩
    rw [← hV] at hX hBd ⊢
    rw [← hXe] at hX ⊢
    have HU := Lib.hid (And.intro hX hBd)
    clear hal hX hBd hV hXe hb_wi hs_wi
    obtain ⟨x1, x2, x3, x4⟩ := HV.out.1.below HU.out.2
    obtain ⟨y1, y2, y3, y4⟩ := HU.out.1
    have hB : Below w.heap.size w U := hb_wd.trans ((HV.out.2.trans (HU.out.2.mono HV.out.2.size)).mono hs_wd)
    have HB := Lib.hid hB
    clear hB
    go_wp2_with fail
    exact bodyPost_ret (v := .bool true) (by simp [results, Tryd.results7, go_sem]) rfl ⟨rfl, HB.out⟩

end Go.Proofs.YtoaomjchaihkaaaDoor.fnAdjustTwo
