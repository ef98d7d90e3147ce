/-
  What the draws of the laws on shares give: lengths (at most six numbers, whatever they are), an amount, shares or rises, by new memory alone.
  What the draws of the laws on shares give.
  What the draws of the laws on shares give: rises, and once more lengths, an amount and shares.
-/
import Derived.Test.YtjfbkafekkbcdaaSy
import Derived.Test.YtjfbkafekkbcdaaDNa
import Derived.Test.YtjfbkafekkbcdaaNm
import Derived.Test.YtjfbkafekkbcdaaCode
namespace Go.Proofs.Ytjfbkafekkbcdaa
open Go.RowKit
set_option linter.unusedVariables false

/-- a list of integers that is kept in the new block g, beside the reader in block R -/
def IntsIn (w0 w : World) (R g n cap : Nat) (L : List Int) : Prop := (w0.heap.size ≤ g ∧ g ≠ R) ∧ Own w g 3 1 n cap L ∧ w0.grownBy w (some R)
section
variable {w0 w w' : World} {R g n cap : Nat} {L : List Int}
theorem IntsIn.moved (h : IntsIn w0 w R g n cap L) (hg : w.grownBy w' (some R)) : IntsIn w0 w' R g n cap L := ⟨h.1, h.2.1.grown hg h.1.2, gb_trans h.2.2 hg⟩
theorem IntsIn.alloc (h : IntsIn w0 w R g n cap L) (o : Obj) : IntsIn w0 (w.alloc o) R g n cap L := ⟨h.1, h.2.1.alloc o, gb_alloc h.2.2 o⟩
theorem IntsIn.below (h : IntsIn w0 w R g n cap L) (hb : Below w.heap.size w w') : IntsIn w0 w' R g n cap L := ⟨h.1, h.2.1.below hb, gb_below h.2.2 hb⟩
theorem IntsIn.set (h : IntsIn w0 w R g n cap L) (i : Nat) (z : Int) (hi : i < L.length) : IntsIn w0 (w.setCell ⟨g, i, none⟩ (.int .i64 z)) R g n cap (L.set i z) := ⟨h.1, h.2.1.set i z hi, gb_new h.2.2 h.1.1 _⟩
end
theorem three_atS (m : Int) (h0 : 0 ≤ m) (h1 : m < 3) (a b c : Int) : ∃ z : Int, (#[Value.int .i64 a, Value.int .i64 b, Value.int .i64 c] : Array Value)[m.toNat]? = some (.int .i64 z) := by
  rcases (show m = 0 ∨ m = 1 ∨ m = 2 by omega) with rfl | rfl | rfl
  · exact ⟨a, rfl⟩
  · exact ⟨b, rfl⟩
  · exact ⟨c, rfl⟩
theorem amount_is (K R : Nat) (w : World) (h : Rdr K w R) (hK : K ≤ 1000) :
    Calls Try.prog 39 #[.pointer (some ⟨R, 0, none⟩)] w fun e w' => (∃ a : Int, e = .returned (.int .i64 a) ∧ -10000001 ≤ a ∧ a ≤ 10000001) ∧ Rdr (K + 2) w' R ∧ w.grownBy w' (some R) := by
  have hRlt := rdr_lt h
  go_enter Try.func39, Try.ntmps39
  go_upto_region 2 with ((go_at_call 51; (with_reducible refine (pick_any (K) R (24) _ ?_ (by omega) (by omega) (by omega)).mono ?_); (focus ((repeat (first | with_reducible assumption | (with_reducible refine rdr_drewN ?_ _) | (with_reducible refine rdr_drew ?_) | (with_reducible refine rdr_alloc ?_ _) | (with_reducible refine rdr_setCell ?_ (by first | omega | (simp <;> omega) | simp) _) | (with_reducible refine rdr_chain ?_ (by with_reducible assumption)))); done)); rintro e wp ⟨m_wp, hm0_wp, hm1_wp, rfl, hR_wp, hg_wp, hq_wp⟩; have hs_wp := Nat.le_of_eq hq_wp; have ht_wp := Nat.le_of_eq hq_wp.symm; (try simp at hs_wp); (try simp at ht_wp); clear hq_wp))
  have hlp : R < wp.heap.size := by omega
  go_wp2_with (first | ((go_at_call 51; (with_reducible refine (pick_any (K + 1) R (3) _ ?_ (by omega) (by omega) (by omega)).mono ?_); (focus ((repeat (first | with_reducible assumption | (with_reducible refine rdr_drewN ?_ _) | (with_reducible refine rdr_drew ?_) | (with_reducible refine rdr_alloc ?_ _) | (with_reducible refine rdr_setCell ?_ (by first | omega | (simp <;> omega) | simp) _) | (with_reducible refine rdr_chain ?_ (by with_reducible assumption)))); done)); rintro e wq ⟨m_wq, hm0_wq, hm1_wq, rfl, hR_wq, hg_wq, hq_wq⟩; have hs_wq := Nat.le_of_eq hq_wq; have ht_wq := Nat.le_of_eq hq_wq.symm; (try simp at hs_wq); (try simp at ht_wq); clear hq_wq); obtain ⟨zq, hzq⟩ := three_atS m_wq hm0_wq hm1_wq 10000000 10000001 (-10000001); have hz2 : -10000001 ≤ zq ∧ zq ≤ 10000001 := (by rcases (show m_wq = 0 ∨ m_wq = 1 ∨ m_wq = 2 by omega) with rfl | rfl | rfl <;> simp at hzq <;> subst hzq <;> simp); have ez : wq.cell? ⟨wp.heap.size, m_wq.toNat, none⟩ = some (.int .i64 zq) := (by rw [(gcell hg_wq).1 _ _ (by simp) (by omega)]; simpa using hzq)) | (go_at_call 51; (with_reducible refine (pick_any (K + 1) R (121) _ ?_ (by omega) (by omega) (by omega)).mono ?_); (focus ((repeat (first | with_reducible assumption | (with_reducible refine rdr_drewN ?_ _) | (with_reducible refine rdr_drew ?_) | (with_reducible refine rdr_alloc ?_ _) | (with_reducible refine rdr_setCell ?_ (by first | omega | (simp <;> omega) | simp) _) | (with_reducible refine rdr_chain ?_ (by with_reducible assumption)))); done)); rintro e wq ⟨m_wq, hm0_wq, hm1_wq, rfl, hR_wq, hg_wq, hq_wq⟩; have hs_wq := Nat.le_of_eq hq_wq; have ht_wq := Nat.le_of_eq hq_wq.symm; (try simp at hs_wq); (try simp at ht_wq); clear hq_wq))
  · go_ret
    exact ⟨⟨zq, rfl, hz2⟩, rdr_mono hR_wq (by omega), gb_trans (gb_alloc hg_wp _) hg_wq⟩
  · go_ret
    exact ⟨⟨m_wq - 60, rfl, by omega, by omega⟩, rdr_mono hR_wq (by omega), gb_trans hg_wp hg_wq⟩
theorem list_any (j : Nat) (z : Int) (L : List Int) : (L.set j z).length = L.length := List.length_set ..
set_option maxHeartbeats 4000000 in
theorem lengths_is (R : Nat) (w : World) (h : Rdr 0 w R) :
    Calls Try.prog 38 #[.pointer (some ⟨R, 0, none⟩)] w fun e w' => ∃ (L : List Int) (g n cap : Nat), e = .returned (.slice (some ⟨g, 0, none⟩) n cap) ∧ (L.length = n ∧ n ≤ 6) ∧ IntsIn w w' R g n cap L ∧ Rdr 20 w' R := by
  have hRlt := rdr_lt h
  go_enter Try.func38, Try.ntmps38
  have HE : Hid (IntsIn w (w.alloc (.cells #[] 3)) R w.heap.size 0 0 []) := Lib.hid ⟨⟨Nat.le_refl _, by omega⟩, Own.empty _ _ _, gb_alloc (gb_refl _ _) _⟩
  go_upto_region 3 with ((go_at_call 51; (with_reducible refine (pick_any (0) R (6) _ ?_ (by omega) (by omega) (by omega)).mono ?_); (focus ((repeat (first | with_reducible assumption | (with_reducible refine rdr_drewN ?_ _) | (with_reducible refine rdr_drew ?_) | (with_reducible refine rdr_alloc ?_ _) | (with_reducible refine rdr_setCell ?_ (by first | omega | (simp <;> omega) | simp) _) | (with_reducible refine rdr_chain ?_ (by with_reducible assumption)))); done)); rintro e wp ⟨m_wp, hm0_wp, hm1_wp, rfl, hR_wp, hg_wp, hq_wp⟩; have hs_wp := Nat.le_of_eq hq_wp; have ht_wp := Nat.le_of_eq hq_wp.symm; (try simp at hs_wp); (try simp at ht_wp); clear hq_wp))
  obtain ⟨n, hn⟩ : ∃ n : Nat, 1 + m_wp = n := ⟨(1 + m_wp).toNat, by omega⟩
  have hn1 : 1 ≤ n := by omega
  have hn6 : n ≤ 6 := by omega
  have H1 := Lib.hid (And.intro (HE.out.moved hg_wp) hR_wp)
  rw [hn]
  clear HE hg_wp hR_wp hn h hm0_wp hm1_wp
  go_wp2_with fail
  go_loopw [3, 5] (fun v i wr => ∃ (j g cap : Nat) (L : List Int), j ≤ n ∧ i = .int .i64 j ∧ v = .slice (some ⟨g, 0, none⟩) j cap ∧ IntsIn w wr R g j cap L ∧ Rdr (1 + j) wr R) (fun _ i _ => n - (intOf i).toNat)
  case atStart => exact ⟨0, _, _, _, Nat.zero_le _, rfl, rfl, H1.out.1, H1.out.2⟩
  case round =>
    clear H1
    rename World => wr
    obtain ⟨j, g, cap, L, hj, rfl, rfl, hi, hrd⟩ := hrel
    have hlo := hi.2.1.lt
    have hbs := hi.2.2.size
    have hgr := hi.1
    have HI := Lib.hid hi
    clear hi
    obtain ⟨hgw, hgR⟩ := hgr
    by_cases hlt : j < n
    · go_wp2_with (first | ((go_at_call 51; (with_reducible refine (pick_any (1 + j) R (9) _ ?_ (by omega) (by omega) (by omega)).mono ?_); (focus ((repeat (first | with_reducible assumption | (with_reducible refine rdr_drewN ?_ _) | (with_reducible refine rdr_drew ?_) | (with_reducible refine rdr_alloc ?_ _) | (with_reducible refine rdr_setCell ?_ (by first | omega | (simp <;> omega) | simp) _) | (with_reducible refine rdr_chain ?_ (by with_reducible assumption)))); done)); rintro e wq ⟨m_wq, hm0_wq, hm1_wq, rfl, hR_wq, hg_wq, hq_wq⟩; have hs_wq := Nat.le_of_eq hq_wq; have ht_wq := Nat.le_of_eq hq_wq.symm; (try simp at hs_wq); (try simp at ht_wq); clear hq_wq); have HQ := Lib.hid (HI.out.moved hg_wq)) | (at_builtin; refine wp_append _ rfl _ _ 23 rfl 3 _ 1 8 Try.underlying23 info_int rfl (by decide) (by decide) _ j cap _ rfl (HQ.out.2.1.alloc _) _ _ _ [m_wq] rfl rfl (one_cell _ _ _) (by omega) ?_; intro g1 d1 w1 hown hg hloc hsz; have HN := Lib.hid (And.intro hown (And.intro hg hloc)); clear hown hg hloc))
      go_roundw
      case rel =>
        obtain ⟨hown, hg, hloc⟩ := HN.out
        have hgb := gb_alloc HQ.out.2.2 (.cells #[.int .i64 m_wq] 3)
        have hRw := rdr_lt hR_wq
        have hg1 : w.heap.size ≤ g1 ∧ g1 ≠ R := by
          rcases hloc with e | e
          · omega
          · simp at e; omega
        exact ⟨j + 1, g1, d1, _, by omega, by go_num, rfl, ⟨hg1, hown, gb_own hgb hg hgw⟩, rdr_mono (rdr_own (rdr_alloc hR_wq _) hg (by omega)) (by omega)⟩
      case measure => simp [intOf]; omega
    · have e : j = n := by omega
      subst e
      go_upto_region 8 with (first | ((go_at_call 51; (with_reducible refine (pick_any (1 + j) R ((j : Int)) _ ?_ (by omega) (by omega) (by omega)).mono ?_); (focus ((repeat (first | with_reducible assumption | (with_reducible refine rdr_drewN ?_ _) | (with_reducible refine rdr_drew ?_) | (with_reducible refine rdr_alloc ?_ _) | (with_reducible refine rdr_setCell ?_ (by first | omega | (simp <;> omega) | simp) _) | (with_reducible refine rdr_chain ?_ (by with_reducible assumption)))); done)); rintro e wa ⟨m_wa, hm0_wa, hm1_wa, rfl, hR_wa, hg_wa, hq_wa⟩; have hs_wa := Nat.le_of_eq hq_wa; have ht_wa := Nat.le_of_eq hq_wa.symm; (try simp at hs_wa); (try simp at ht_wa); clear hq_wa); have HA := Lib.hid (HI.out.moved hg_wa)) | ((go_at_call 51; (with_reducible refine (pick_any (1 + j + 1) R (5) _ ?_ (by omega) (by omega) (by omega)).mono ?_); (focus ((repeat (first | with_reducible assumption | (with_reducible refine rdr_drewN ?_ _) | (with_reducible refine rdr_drew ?_) | (with_reducible refine rdr_alloc ?_ _) | (with_reducible refine rdr_setCell ?_ (by first | omega | (simp <;> omega) | simp) _) | (with_reducible refine rdr_chain ?_ (by with_reducible assumption)))); done)); rintro e wb ⟨m_wb, hm0_wb, hm1_wb, rfl, hR_wb, hg_wb, hq_wb⟩; have hs_wb := Nat.le_of_eq hq_wb; have ht_wb := Nat.le_of_eq hq_wb.symm; (try simp at hs_wb); (try simp at ht_wb); clear hq_wb); have HB := Lib.hid (HA.out.moved hg_wb); obtain ⟨v0, hv0⟩ : ∃ v0, L[m_wa.toNat]? = some v0 := ⟨_, List.getElem?_eq_getElem (by have := HI.out.2.1.len; omega)⟩; have e0 := HB.out.2.1.cells hv0; have f0 := HB.out.2.1.frozen m_wa.toNat; have hlb := HB.out.2.1.lt; clear hv0))
      refine gen_world (fun W => (∃ L' : List Int, L'.length = j ∧ IntsIn w W R g j cap L') ∧ Rdr (1 + j + 1 + 1) W R) ⟨⟨L.set m_wa.toNat (1 + m_wb), by rw [List.length_set]; have := HI.out.2.1.len; omega, HB.out.set _ _ (by have := HI.out.2.1.len; omega)⟩, rdr_setCell hR_wb (show R < (⟨g, m_wa.toNat, none⟩ : Addr).block by show R < g; have := HI.out.2.2.size; omega) _⟩ (fun W hp => ?_)
      obtain ⟨⟨L', hL', hi'⟩, hrd'⟩ := hp
      have hW1 := hi'.2.2.size
      have hW2 := hi'.2.1.lt
      have HI' := Lib.hid (And.intro hL' hi')
      have hM := fun w => made_ints w j (by omega)
      clear HI HA HB e0 f0 hi' hL' hrd hlb hR_wb hg_wb hR_wa hg_wa hbs hlo
      go_upto_region 9 with ((go_at_call 51; (with_reducible refine (pick_any (1 + j + 1 + 1) R (40) _ ?_ (by omega) (by omega) (by omega)).mono ?_); (focus ((repeat (first | with_reducible assumption | (with_reducible refine rdr_drewN ?_ _) | (with_reducible refine rdr_drew ?_) | (with_reducible refine rdr_alloc ?_ _) | (with_reducible refine rdr_setCell ?_ (by first | omega | (simp <;> omega) | simp) _) | (with_reducible refine rdr_chain ?_ (by with_reducible assumption)))); done)); rintro e wc ⟨m_wc, hm0_wc, hm1_wc, rfl, hR_wc, hg_wc, hq_wc⟩; have hs_wc := Nat.le_of_eq hq_wc; have ht_wc := Nat.le_of_eq hq_wc.symm; (try simp at hs_wc); (try simp at ht_wc); clear hq_wc))
      have hic := HI'.out.2.moved hg_wc
      have hc1 := hic.2.2.size
      have hc2 := hic.2.1.lt
      have HC := Lib.hid (And.intro HI'.out.1 hic)
      have hcR := rdr_lt hR_wc
      clear hic hg_wc HI' hrd'
      by_cases hm0 : m_wc = 0
      · have hj0 : (0 : Int) < (j : Int) := by omega
        subst hm0
        go_wp2_with ((go_at_call 51; (with_reducible refine (pick_any (1 + j + 1 + 1 + 1) R (2) _ ?_ (by omega) (by omega) (by omega)).mono ?_); (focus ((repeat (first | with_reducible assumption | (with_reducible refine rdr_drewN ?_ _) | (with_reducible refine rdr_drew ?_) | (with_reducible refine rdr_alloc ?_ _) | (with_reducible refine rdr_setCell ?_ (by first | omega | (simp <;> omega) | simp) _) | (with_reducible refine rdr_chain ?_ (by with_reducible assumption)))); done)); rintro e wd ⟨m_wd, hm0_wd, hm1_wd, rfl, hR_wd, hg_wd, hq_wd⟩; have hs_wd := Nat.le_of_eq hq_wd; have ht_wd := Nat.le_of_eq hq_wd.symm; (try simp at hs_wd); (try simp at ht_wd); clear hq_wd); obtain ⟨zq, hzq⟩ := two_at m_wd hm0_wd hm1_wd (-1) 10001; have ez : wd.cell? ⟨wc.heap.size, m_wd.toNat, none⟩ = some (.int .i64 zq) := (by rw [(gcell hg_wd).1 _ _ (by simp) (by omega)]; simpa using hzq); have HD := Lib.hid ((HC.out.2.alloc (.cells #[.int .i64 (-1), .int .i64 10001] 3)).moved hg_wd); obtain ⟨v1, hv1⟩ : ∃ v1, L'[0]? = some v1 := ⟨_, List.getElem?_eq_getElem (by have := HC.out.1; omega)⟩; have e1 := HD.out.2.1.cells hv1; have f1 := HD.out.2.1.frozen 0; have hld := HD.out.2.1.lt; clear hv1)
        exact bodyPost_ret (v := .slice (some ⟨g, 0, none⟩) j cap) (by simp [results, Try.results38, go_sem]) rfl ⟨L'.set 0 zq, g, j, cap, rfl, ⟨by rw [List.length_set]; exact HC.out.1, hn6⟩, HD.out.set 0 zq (by have := HC.out.1; omega), rdr_mono (rdr_setCell hR_wd (show R < (⟨g, 0, none⟩ : Addr).block by show R < g; omega) _) (by omega)⟩
      · by_cases hm1 : m_wc = 1
        · subst hm1
          have HO := Lib.hid (Own.made wc 3 j 1 (by decide) (by unfold maxLen; omega))
          go_wp2_with fail
          exact bodyPost_ret (v := .slice (some ⟨wc.heap.size, 0, none⟩) j j) (by simp [results, Try.results38, go_sem]) rfl ⟨List.replicate (j * 1) 0, wc.heap.size, j, j, rfl, ⟨by simp, hn6⟩, ⟨⟨hc1, by omega⟩, by have := HO.out; simp only [Nat.mul_one] at this ⊢; exact this, gb_alloc HC.out.2.2.2 _⟩, rdr_mono (rdr_alloc hR_wc _) (by omega)⟩
        · by_cases hm2 : m_wc = 2
          · subst hm2
            go_wp2_with fail
            exact bodyPost_ret (v := .slice (some ⟨wc.heap.size, 0, none⟩) 0 0) (by simp [results, Try.results38, go_sem]) rfl ⟨[], wc.heap.size, 0, 0, rfl, ⟨rfl, by omega⟩, ⟨⟨hc1, by omega⟩, Own.empty _ _ _, gb_alloc HC.out.2.2.2 _⟩, rdr_mono (rdr_alloc hR_wc _) (by omega)⟩
          · go_wp2_with fail
            exact bodyPost_ret (v := .slice (some ⟨g, 0, none⟩) j cap) (by simp [results, Try.results38, go_sem]) rfl ⟨L', g, j, cap, rfl, ⟨HC.out.1, hn6⟩, HC.out.2, rdr_mono hR_wc (by omega)⟩
end Go.Proofs.Ytjfbkafekkbcdaa
namespace Go.Proofs.Ytjfbkafekkbcdaa
open Go.RowKit
set_option linter.unusedVariables false

theorem gb_undr {w w' : World} {r : Option Nat} (h : w.drew.grownBy w' r) : w.grownBy w' r := ⟨h.os, h.tape, h.output, h.size, h.block⟩
theorem intsIn_other {w0 w : World} {R g n cap gx i : Nat} {L : List Int} (h : IntsIn w0 w R g n cap L) (hne : gx ≠ g) (hx : w0.heap.size ≤ gx) (v : Value) : IntsIn w0 (w.setCell ⟨gx, i, none⟩ v) R g n cap L := ⟨h.1, h.2.1.setOther (a := ⟨gx, i, none⟩) (Ne.symm hne) v, gb_new h.2.2 hx v⟩
/-- lengths and an amount -/
def ShareOfD (w : World) (n g cap : Nat) (L : List Int) (a : Int) (w' : World) : Prop := (L.length = n ∧ n ≤ 6) ∧ (-10000001 ≤ a ∧ a ≤ 10000001) ∧ w.heap.size ≤ g ∧ Own w' g 3 1 n cap L ∧ Below w.heap.size w w'
set_option maxHeartbeats 2000000 in
theorem drawShareOf_is (v : Value) (w : World) (h : Hid (Code' w v)) :
    Calls Try.prog 14 #[v] w fun e w' => ∃ (L : List Int) (n g cap : Nat) (a : Int), e = .returned (.tuple #[.slice (some ⟨g, 0, none⟩) n cap, .int .i64 a]) ∧ ShareOfD w n g cap L a w' := by
  go_enter Try.func14, Try.ntmps14
  go_wp2_with (first | (go_at_call 37; (with_reducible refine (open_any _ _ h).mono ?_); rintro e wo ⟨rfl, hR_wo, hb_wo, hz_wo⟩; have hs_wo := hb_wo.size; clear hz_wo) | (go_at_call 38; (with_reducible refine (lengths_is _ _ hR_wo).mono ?_); rintro e wl ⟨L, g, n, cap, rfl, hn, hi, hR_wl⟩; have HI := Lib.hid (And.intro hn hi); clear hn hi) | (go_at_call 39; (with_reducible refine (amount_is _ _ _ hR_wl (by omega)).mono ?_); rintro e wa ⟨⟨a, rfl, ha⟩, hR_wa, hg_wa⟩; have HA := Lib.hid (And.intro ha hg_wa); clear ha hg_wa))
  obtain ⟨hn, hi⟩ := HI.out
  have h5 := hi.moved HA.out.2
  exact bodyPost_ret (v := .tuple #[.slice (some ⟨g, 0, none⟩) n cap, .int .i64 a]) (by simp [results, Try.results14, go_sem]) rfl ⟨L, n, g, cap, a, rfl, hn, HA.out.1, Nat.le_trans hb_wo.size h5.1.1, h5.2.1, below_gb hb_wo h5.2.2 (Nat.le_refl _) hb_wo.size⟩
/-- lengths, an amount and shares -/
def ShareOkD (w : World) (n g cap : Nat) (L : List Int) (a : Int) (gx cx : Nat) (X : List Int) (w' : World) : Prop := (X.length = n ∧ gx ≠ g ∧ w.heap.size ≤ gx ∧ Own w' gx 3 1 n cx X) ∧ ShareOfD w n g cap L a w'
theorem shareOk_fin {w W wo : World} {R n g cap gx cx : Nat} {L X : List Int} {a : Int} (hl : X.length = n) (hne : gx ≠ g) (hxw : w.heap.size ≤ gx) (ho : Own W gx 3 1 n cx X) (hi : IntsIn wo W R g n cap L) (hln : L.length = n ∧ n ≤ 6) (ha : -10000001 ≤ a ∧ a ≤ 10000001) (hb : Below w.heap.size w wo) (hwR : w.heap.size ≤ R) (hgw : w.heap.size ≤ g) : ShareOkD w n g cap L a gx cx X W :=
  ⟨⟨hl, hne, hxw, ho⟩, hln, ha, hgw, hi.2.1, below_gb hb hi.2.2 hwR hb.size⟩
set_option maxHeartbeats 4000000 in
theorem drawShareOk_is (v : Value) (w : World) (h : Hid (Code' w v)) :
    Calls Try.prog 21 #[v] w fun e w' => ∃ (L X : List Int) (n g cap gx cx : Nat) (a : Int), e = .returned (.tuple #[.slice (some ⟨g, 0, none⟩) n cap, .int .i64 a, .slice (some ⟨gx, 0, none⟩) n cx]) ∧ ShareOkD w n g cap L a gx cx X w' := by
  go_enter Try.func21, Try.ntmps21
  go_upto_region 2 with (go_at_call 37; (with_reducible refine (open_any _ _ h).mono ?_); rintro e wo ⟨rfl, hR_wo, hb_wo, hz_wo⟩; have hs_wo := hb_wo.size; clear hz_wo)
  obtain ⟨R, hRe⟩ : ∃ R, R = w.heap.size := ⟨_, rfl⟩
  rw [← hRe] at hR_wo ⊢
  have hwR : w.heap.size ≤ R := by omega
  have hRw : R ≤ w.heap.size := by omega
  clear hRe h
  have hRlt := rdr_lt hR_wo
  go_upto_region 4 with (first | (go_at_call 38; (with_reducible refine (lengths_is _ _ hR_wo).mono ?_); rintro e wl ⟨L, g, n, cap, rfl, hn, hi, hR_wl⟩; have HI := Lib.hid (And.intro hn hi); clear hn hi) | (go_at_call 39; (with_reducible refine (amount_is _ _ _ hR_wl (by omega)).mono ?_); rintro e wa ⟨⟨a, rfl, ha⟩, hR_wa, hg_wa⟩; have HA := Lib.hid (And.intro ha hg_wa); clear ha hg_wa))
  have hia := HI.out.2.moved HA.out.2
  have hn6 := HI.out.1.2
  have hga := hia.1.1
  have hgR := hia.1.2
  have hla := hia.2.1.lt
  have hsa := hia.2.2.size
  have HB := Lib.hid (And.intro HI.out.1 (And.intro HA.out.1 hia))
  clear hia HI HA hR_wl
  obtain ⟨b, hb⟩ : ∃ b, amtOk L a = b := ⟨_, rfl⟩
  cases b
  · have c1 := fun w h => Lib.hid (sShareOf_no n cap (some ⟨g, 0, none⟩) L a w h HB.out.1.1 (by omega) hb)
    clear hb
    go_upto_region 6 with ((go_at_call 16; (with_reducible refine ((c1 _ ?_).out).mono ?_); (focus ((exact HB.out.2.2.2.1.ints); done)); rintro e ws ⟨⟨gs, rfl⟩, hb_ws⟩; have hs_ws := hb_ws.size; (try simp at hs_ws)))
    have HS := Lib.hid (HB.out.2.2.below hb_ws)
    have hM := fun w => made_ints w n (by omega)
    refine wp_region_any (by kernel_rfl) ?_
    change wpAny _ _ _ _ _ _ _ (World.drew _)
    refine wpAny_take (i := 0) (v := .slice (some ⟨g, 0, none⟩) n cap) rfl (by kernel_rfl) (by kernel_rfl) (by kernel_rfl) (fun _ _ _ h => h) (Or.inl ⟨by rfl, ?_⟩) ?_
    focus ((intro w; go_simp); done)
    refine wpAny_take (i := 1) (v := .int .i64 a) rfl (by kernel_rfl) (by kernel_rfl) (by kernel_rfl) (fun _ _ _ h => h) (Or.inl ⟨by rfl, ?_⟩) ?_
    focus ((intro w; go_simp); done)
    refine wpAny_take (i := 2) (v := .slice (some ⟨g, 0, none⟩) n cap) rfl (by kernel_rfl) (by kernel_rfl) (by kernel_rfl) (fun _ _ _ h => h) (Or.inl ⟨by rfl, ?_⟩) ?_
    focus ((intro w; go_simp); done)
    refine wpAny_take (i := 3) (v := .int .i64 n) rfl (by kernel_rfl) (by kernel_rfl) (by kernel_rfl) (fun _ _ _ h => h) (Or.inl ⟨by rfl, ?_⟩) ?_
    focus ((intro w; go_simp); done)
    refine wpAny_take (i := 5) (v := .slice (some ⟨g, 0, none⟩) n cap) rfl (by kernel_rfl) (by kernel_rfl) (by kernel_rfl) (fun _ _ _ h => h) (Or.inl ⟨by rfl, ?_⟩) ?_
    focus ((intro w; go_simp); done)
    refine wpAny_take (i := 6) (v := .int .i64 a) rfl (by kernel_rfl) (by kernel_rfl) (by kernel_rfl) (fun _ _ _ h => h) (Or.inl ⟨by rfl, ?_⟩) ?_
    focus ((intro w; go_simp); done)
    refine wpAny_ready (rs := [4]) (by kernel_rfl) (by simp) ?_
    refine AllReady.cons rfl (fun K' hK => ?_) AllReady.nil
    go_simp
    refine hK _ _ ?_
    clear hK K'
    refine wpAny_take (i := 7) (v := .slice (some ⟨ws.heap.size, 0, none⟩) n n) rfl (by kernel_rfl) (by kernel_rfl) (by kernel_rfl) (fun _ _ _ h => h) (Or.inl ⟨by rfl, ?_⟩) ?_
    focus ((intro w; go_simp); done)
    refine wpAny_done (by kernel_rfl) ?_ _
    clear c1 hM
    have HO := Lib.hid (Own.made ws.drew 3 n 1 (by decide) (by unfold maxLen; omega))
    go_wp2_with fail
    exact bodyPost_ret (v := .tuple #[.slice (some ⟨g, 0, none⟩) n cap, .int .i64 a, .slice (some ⟨ws.heap.size, 0, none⟩) n n]) (by simp [results, Try.results21, go_sem]) rfl ⟨L, List.replicate (n * 1) 0, n, g, cap, ws.heap.size, n, a, rfl, ⟨by simp, by have := HS.out.2.1.lt; omega, by omega, by have := HO.out; simp only [Nat.mul_one] at this ⊢; exact this⟩, HB.out.1, HB.out.2.1, by omega, (own_drew HS.out.2.1).alloc _, below_gb hb_wo (gb_alloc (gb_drew HS.out.2.2) _) hwR hb_wo.size⟩
  · have c1 := fun w h => Lib.hid (sShareOf_yes n cap (some ⟨g, 0, none⟩) L a w h HB.out.1.1 hb)
    have hsl := fun i (hi : i < n) => sh_low hb (i := i) (by rw [HB.out.1.1]; exact hi)
    have HL := Lib.hid hsl
    clear hb hsl
    go_upto_region 5 with ((go_at_call 16; (with_reducible refine ((c1 _ ?_).out).mono ?_); (focus ((exact HB.out.2.2.2.1.ints); done)); rintro e ws ⟨gx, cx, rfl, hgx, ox, hb_ws⟩; have hs_ws := hb_ws.size; (try simp at hs_ws)))
    have hgxg : gx ≠ g := by omega
    have hgxR : gx ≠ R := by omega
    have hgxw : w.heap.size ≤ gx := by omega
    have hlx := ox.lt
    have HS := Lib.hid (And.intro (HB.out.2.2.below hb_ws) (And.intro (rdr_chain hR_wa hb_ws) ox))
    have hrd := HS.out.2.1
    have hls := HS.out.1.2.1.lt
    have hss := HS.out.1.2.2.size
    clear hb_ws ox hR_wa c1
    have hgxo : wo.heap.size ≤ gx := by omega
    have hxl : (shr L a).length = n := by rw [shr_len, HB.out.1.1]
    have fin := fun (X : List Int) (W : World) (h1 : X.length = n) (h2 : Own W gx 3 1 n cx X) (h3 : IntsIn wo W R g n cap L) => shareOk_fin (a := a) (w := w) h1 hgxg hgxw h2 h3 HB.out.1 HB.out.2.1 hb_wo hwR (by omega)
    by_cases hn1 : 1 < n
    · have hn1' : (1 : Int) < (n : Int) := by omega
      have hn0' : (0 : Int) < (n : Int) := by omega
      have hn2' : ¬ n ≤ 1 := by omega
      have hn0n : 0 < n := by omega
      go_upto_region 8 with ((go_at_call 51; (with_reducible refine (pick_any (20 + 2) R (2) _ ?_ (by omega) (by omega) (by omega)).mono ?_); (focus ((repeat (first | with_reducible assumption | (with_reducible refine rdr_drewN ?_ _) | (with_reducible refine rdr_drew ?_) | (with_reducible refine rdr_alloc ?_ _) | (with_reducible refine rdr_setCell ?_ (by first | omega | (simp <;> omega) | simp) _) | (with_reducible refine rdr_chain ?_ (by with_reducible assumption)))); done)); rintro e wp ⟨m_wp, hm0_wp, hm1_wp, rfl, hR_wp, hg_wp, hq_wp⟩; have hs_wp := Nat.le_of_eq hq_wp; have ht_wp := Nat.le_of_eq hq_wp.symm; (try simp at hs_wp); (try simp at ht_wp); clear hq_wp))
      · have oz := HS.out.2.2.grown hg_wp hgxR
        obtain ⟨z, hz⟩ : ∃ z, sh L a 0 = z := ⟨_, rfl⟩
        obtain ⟨y, hy⟩ : ∃ y, sh L a 1 = y := ⟨_, rfl⟩
        obtain ⟨z0, z1⟩ := HL.out 0 (by omega)
        obtain ⟨y0, y1⟩ := HL.out 1 (by omega)
        rw [hz] at z0 z1
        rw [hy] at y0 y1
        have hz' : (shr L a)[0]? = some z := by rw [at_nth (by rw [shr_len, HB.out.1.1]; omega), nth_shr (by rw [HB.out.1.1]; omega), hz]
        have hy' : (shr L a)[1]? = some y := by rw [at_nth (by rw [shr_len, HB.out.1.1]; omega), nth_shr (by rw [HB.out.1.1]; omega), hy]
        have e0 := oz.cells hz'
        have f0 := oz.frozen 0
        have lz0 := oz.lt
        have HY := Lib.hid (And.intro (HS.out.1.moved hg_wp) (And.intro oz (And.intro hz' (And.intro hy' hxl))))
        have hwp := HY.out.1.2.1.lt
        clear oz hz hy hz' hy' hxl hrd HS hg_wp
        go_region_with ((go_at_call 51; (with_reducible refine (pick_any (20 + 2 + 1) R (3) _ ?_ (by omega) (by omega) (by omega)).mono ?_); (focus ((repeat (first | with_reducible assumption | (with_reducible refine rdr_drewN ?_ _) | (with_reducible refine rdr_drew ?_) | (with_reducible refine rdr_alloc ?_ _) | (with_reducible refine rdr_setCell ?_ (by first | omega | (simp <;> omega) | simp) _) | (with_reducible refine rdr_chain ?_ (by with_reducible assumption)))); done)); rintro e wu ⟨m_wu, hm0_wu, hm1_wu, rfl, hR_wu, hg_wu, hq_wu⟩; have hs_wu := Nat.le_of_eq hq_wu; have ht_wu := Nat.le_of_eq hq_wu.symm; (try simp at hs_wu); (try simp at ht_wu); clear hq_wu); have oz := HY.out.2.1.grown (gb_undr hg_wu) hgxR; have fz := oz.frozen 0; have xz : wu.cell? ⟨gx, 0, none⟩ = some (.int .i64 z) := oz.cells HY.out.2.2.1; have lz := oz.lt; clear oz)
        all_goals go_wp2_with fail
        all_goals refine gen_world (fun W => (∃ x0 : Int, Own W gx 3 1 n cx ((shr L a).set 0 x0)) ∧ IntsIn wo W R g n cap L ∧ Rdr (20 + 2 + 1 + 1) W R) ⟨⟨_, (HY.out.2.1.grown (gb_undr hg_wu) hgxR).set 0 _ (by rw [HY.out.2.2.2.2]; exact hn0n)⟩, intsIn_other (HY.out.1.moved (gb_undr hg_wu)) hgxg hgxo _, rdr_setCell hR_wu (show R < (⟨gx, 0, none⟩ : Addr).block by show R < gx; omega) _⟩ (fun W hp => ?_)
        all_goals
          obtain ⟨⟨x0, ox⟩, hi, hrd⟩ := hp
          have hy1 : ((shr L a).set 0 x0)[1]? = some y := by rw [List.getElem?_set_ne (by omega)]; exact HY.out.2.2.2.1
          have e1 := ox.cells hy1
          have f1 := ox.frozen 1
          have lx1 := ox.lt
          have HZ := Lib.hid (And.intro ox (And.intro hi hy1))
          clear e0 f0 lz0 fz xz lz ox hi hy1 hg_wu hR_wu hR_wp
          go_region_with ((go_at_call 51; (with_reducible refine (pick_any (20 + 2 + 1 + 1) R (3) _ ?_ (by omega) (by omega) (by omega)).mono ?_); (focus ((repeat (first | with_reducible assumption | (with_reducible refine rdr_drewN ?_ _) | (with_reducible refine rdr_drew ?_) | (with_reducible refine rdr_alloc ?_ _) | (with_reducible refine rdr_setCell ?_ (by first | omega | (simp <;> omega) | simp) _) | (with_reducible refine rdr_chain ?_ (by with_reducible assumption)))); done)); rintro e wv ⟨m_wv, hm0_wv, hm1_wv, rfl, hR_wv, hg_wv, hq_wv⟩; have hs_wv := Nat.le_of_eq hq_wv; have ht_wv := Nat.le_of_eq hq_wv.symm; (try simp at hs_wv); (try simp at ht_wv); clear hq_wv); have oz := HZ.out.1.grown (gb_undr hg_wv) hgxR; have fz := oz.frozen 1; have xz : wv.cell? ⟨gx, 1, none⟩ = some (.int .i64 y) := oz.cells HZ.out.2.2; have lz := oz.lt; clear oz)
        all_goals go_wp2_with fail
        all_goals exact bodyPost_ret (v := .tuple #[.slice (some ⟨g, 0, none⟩) n cap, .int .i64 a, .slice (some ⟨gx, 0, none⟩) n cx]) (by simp [results, Try.results21, go_sem]) rfl ⟨L, _, n, g, cap, gx, cx, a, rfl, fin _ _ (by rw [List.length_set, List.length_set]; exact HY.out.2.2.2.2) ((HZ.out.1.grown (gb_undr hg_wv) hgxR).set 1 _ (by rw [List.length_set, HY.out.2.2.2.2]; exact hn1)) (intsIn_other (HZ.out.2.1.moved (gb_undr hg_wv)) hgxg hgxo _)⟩
      · exact bodyPost_ret (v := .tuple #[.slice (some ⟨g, 0, none⟩) n cap, .int .i64 a, .slice (some ⟨gx, 0, none⟩) n cx]) (by simp [results, Try.results21, go_sem]) rfl ⟨L, _, n, g, cap, gx, cx, a, rfl, fin _ _ hxl (HS.out.2.2.grown hg_wp hgxR) (HS.out.1.moved hg_wp)⟩
    · have hn1' : ¬ (1 : Int) < (n : Int) := by omega
      go_wp2_with fail
      exact bodyPost_ret (v := .tuple #[.slice (some ⟨g, 0, none⟩) n cap, .int .i64 a, .slice (some ⟨gx, 0, none⟩) n cx]) (by simp [results, Try.results21, go_sem]) rfl ⟨L, _, n, g, cap, gx, cx, a, rfl, fin _ _ hxl HS.out.2.2 HS.out.1⟩
end Go.Proofs.Ytjfbkafekkbcdaa
namespace Go.Proofs.Ytjfbkafekkbcdaa
open Go.RowKit
set_option linter.unusedVariables false

set_option maxHeartbeats 2000000 in
theorem drawShareFar_is (v : Value) (w : World) (h : Hid (Code' w v)) :
    Calls Try.prog 23 #[v] w fun e w' => ∃ (L X : List Int) (n g cap gx cx : Nat) (a : Int), e = .returned (.tuple #[.slice (some ⟨g, 0, none⟩) n cap, .int .i64 a, .slice (some ⟨gx, 0, none⟩) n cx]) ∧ ShareOkD w n g cap L a gx cx X w' := by
  go_enter Try.func23, Try.ntmps23
  go_wp2_with (go_at_call 21; (with_reducible refine (drawShareOk_is _ _ h).mono ?_); rintro e wo ⟨L, X, n, g, cap, gx, cx, a, rfl, hp⟩; have HP := Lib.hid hp; clear hp)
  exact bodyPost_ret (v := .tuple #[.slice (some ⟨g, 0, none⟩) n cap, .int .i64 a, .slice (some ⟨gx, 0, none⟩) n cx]) (by simp [results, Try.results23, go_sem]) rfl ⟨L, X, n, g, cap, gx, cx, a, rfl, HP.out⟩
theorem ints_drop' {w : World} {P o : Nat} {zs : List Int} (h : Ints w (some ⟨P, o, none⟩) zs) (k : Nat) : Ints w (some ⟨P, o + k, none⟩) (zs.drop k) := by
  rcases h with rfl | ⟨B, o', e, hB, hc⟩
  · exact .inl (by simp)
  · simp at e
    obtain ⟨rfl, rfl⟩ := e
    refine .inr ⟨_, _, rfl, hB, fun i z hi => ?_⟩
    rw [Nat.add_assoc]
    exact hc (k + i) z (by rw [← hi, List.getElem?_drop])
/-- lengths and rises -/
def ShareRisD (w : World) (n m g cap : Nat) (L ss : List Int) (q : Option Addr) (w' : World) : Prop := ((L.length = n ∧ n ≤ 6) ∧ ss.length = m ∧ m ≤ 6) ∧ Ints w' (some ⟨g, 0, none⟩) L ∧ Ints w' q ss ∧ Below w.heap.size w w'
set_option maxHeartbeats 4000000 in
theorem drawShareRises_is (v : Value) (w : World) (h : Hid (Code' w v)) :
    Calls Try.prog 25 #[v] w fun e w' => ∃ (L ss : List Int) (n m g cap d : Nat) (q : Option Addr), e = .returned (.tuple #[.slice (some ⟨g, 0, none⟩) n cap, .slice q m d]) ∧ ShareRisD w n m g cap L ss q w' := by
  go_enter Try.func25, Try.ntmps25
  go_upto_region 2 with (go_at_call 37; (with_reducible refine (open_any _ _ h).mono ?_); rintro e wo ⟨rfl, hR_wo, hb_wo, hz_wo⟩; have hs_wo := hb_wo.size; clear hz_wo)
  obtain ⟨R, hRe⟩ : ∃ R, R = w.heap.size := ⟨_, rfl⟩
  rw [← hRe] at hR_wo ⊢
  have hwR : w.heap.size ≤ R := by omega
  clear hRe h
  have hRlt := rdr_lt hR_wo
  go_upto_region 3 with (go_at_call 38; (with_reducible refine (lengths_is _ _ hR_wo).mono ?_); rintro e wl ⟨L, g, n, cap, rfl, hn, hi, hR_wl⟩; have HI := Lib.hid (And.intro hn (And.intro hi hR_wl)); clear hn hi hR_wl)
  have hn6 := HI.out.1.2
  have hls := HI.out.2.1.2.2.size
  have hRl := rdr_lt HI.out.2.2
  have hgg := HI.out.2.1.2.1.lt
  go_wp2_with fail
  have H1 : Hid (IntsIn wo (wl.alloc (.cells #[] 3)) R g n cap L ∧ IntsIn wo (wl.alloc (.cells #[] 3)) R wl.heap.size 0 0 [] ∧ Rdr 20 (wl.alloc (.cells #[] 3)) R) := Lib.hid ⟨HI.out.2.1.alloc _, ⟨⟨hls, by omega⟩, Own.empty _ _ _, gb_alloc HI.out.2.1.2.2 _⟩, rdr_alloc HI.out.2.2 _⟩
  have HL := Lib.hid HI.out.1
  clear HI hR_wo
  go_loopw [6, 7] (fun v i wr => ∃ (j gr cr : Nat) (S : List Int), j ≤ n ∧ i = .int .i64 j ∧ v = .slice (some ⟨gr, 0, none⟩) j cr ∧ gr ≠ g ∧ IntsIn wo wr R gr j cr S ∧ IntsIn wo wr R g n cap L ∧ Rdr (20 + j) wr R) (fun _ i _ => n - (intOf i).toNat)
  case atStart => exact ⟨0, _, _, _, Nat.zero_le _, rfl, rfl, by omega, H1.out.2.1, H1.out.1, H1.out.2.2⟩
  case round =>
    clear H1
    rename World => wr
    obtain ⟨j, gr, cr, S, hj, rfl, rfl, hne, hi, hg, hrd⟩ := hrel
    have hlo := hi.2.1.lt
    have hlg := hg.2.1.lt
    have hbs := hi.2.2.size
    have hgr := hi.1
    have HI := Lib.hid (And.intro hi hg)
    clear hi hg
    obtain ⟨hgw, hgR⟩ := hgr
    by_cases hlt : j < n
    · go_wp2_with (first | ((go_at_call 51; (with_reducible refine (pick_any (20 + j) R (61) _ ?_ (by omega) (by omega) (by omega)).mono ?_); (focus ((repeat (first | with_reducible assumption | (with_reducible refine rdr_drewN ?_ _) | (with_reducible refine rdr_drew ?_) | (with_reducible refine rdr_alloc ?_ _) | (with_reducible refine rdr_setCell ?_ (by first | omega | (simp <;> omega) | simp) _) | (with_reducible refine rdr_chain ?_ (by with_reducible assumption)))); done)); rintro e wq ⟨m_wq, hm0_wq, hm1_wq, rfl, hR_wq, hg_wq, hq_wq⟩; have hs_wq := Nat.le_of_eq hq_wq; have ht_wq := Nat.le_of_eq hq_wq.symm; (try simp at hs_wq); (try simp at ht_wq); clear hq_wq); have HQ := Lib.hid (And.intro (HI.out.1.moved hg_wq) (HI.out.2.moved hg_wq))) | (at_builtin; refine wp_append _ rfl _ _ 23 rfl 3 _ 1 8 Try.underlying23 info_int rfl (by decide) (by decide) _ j cr _ rfl (HQ.out.1.2.1.alloc _) _ _ _ [m_wq - 30] rfl rfl (one_cell _ _ _) (by omega) ?_; intro g1 d1 w1 hown hg hloc hsz; have HN := Lib.hid (And.intro hown (And.intro hg hloc)); clear hown hg hloc))
      go_roundw
      case rel =>
        obtain ⟨hown, hg, hloc⟩ := HN.out
        have hgb := gb_alloc HQ.out.1.2.2 (.cells #[.int .i64 (m_wq - 30)] 3)
        have hRw := rdr_lt hR_wq
        have hgl := HQ.out.2.2.1.lt
        have hg1 : (wo.heap.size ≤ g1 ∧ g1 ≠ R) ∧ g1 ≠ g := by
          rcases hloc with e | e
          · omega
          · simp at e; omega
        have hg' := HQ.out.2.alloc (.cells #[.int .i64 (m_wq - 30)] 3)
        exact ⟨j + 1, g1, d1, _, by omega, by go_num, rfl, hg1.2, ⟨hg1.1, hown, gb_own hgb hg hgw⟩, ⟨hg'.1, hg'.2.1.grown hg (Ne.symm hne), gb_own hg'.2.2 hg hgw⟩, rdr_mono (rdr_own (rdr_alloc hR_wq _) hg (by omega)) (by omega)⟩
      case measure => simp [intOf]; omega
    · have e : j = n := by omega
      subst e
      have hSl : S.length = j := by have := HI.out.1.2.1.len; omega
      have hcr : j ≤ cr := by obtain ⟨_, _, h, _⟩ := HI.out.1.2.1.body; exact h
      by_cases hj0 : 0 < j
      · have hj0' : (0 : Int) < (j : Int) := by omega
        go_upto_region 10 with ((go_at_call 51; (with_reducible refine (pick_any (20 + j) R (24) _ ?_ (by omega) (by omega) (by omega)).mono ?_); (focus ((repeat (first | with_reducible assumption | (with_reducible refine rdr_drewN ?_ _) | (with_reducible refine rdr_drew ?_) | (with_reducible refine rdr_alloc ?_ _) | (with_reducible refine rdr_setCell ?_ (by first | omega | (simp <;> omega) | simp) _) | (with_reducible refine rdr_chain ?_ (by with_reducible assumption)))); done)); rintro e wc ⟨m_wc, hm0_wc, hm1_wc, rfl, hR_wc, hg_wc, hq_wc⟩; have hs_wc := Nat.le_of_eq hq_wc; have ht_wc := Nat.le_of_eq hq_wc.symm; (try simp at hs_wc); (try simp at ht_wc); clear hq_wc))
        have HC := Lib.hid (And.intro (HI.out.1.moved hg_wc) (HI.out.2.moved hg_wc))
        have hlc := HC.out.1.2.1.lt
        have hsc := HC.out.1.2.2.size
        clear HI hg_wc hrd
        by_cases hm0 : m_wc = 0
        · subst hm0
          obtain ⟨v1, hv1⟩ : ∃ v1, S[0]? = some v1 := ⟨_, List.getElem?_eq_getElem (by omega)⟩
          have e1 := HC.out.1.2.1.cells hv1
          have f1 := HC.out.1.2.1.frozen 0
          clear hv1
          go_wp2_with fail
          have h5 := HC.out.1.set 0 100001 (by omega)
          have h6 := intsIn_other HC.out.2 (i := 0) hne hgw (.int .i64 100001)
          exact bodyPost_ret (v := .tuple #[.slice (some ⟨g, 0, none⟩) j cap, .slice (some ⟨gr, 0, none⟩) j cr]) (by simp [results, Try.results25, go_sem]) rfl ⟨L, S.set 0 100001, j, j, g, cap, cr, _, rfl, ⟨HL.out, by rw [List.length_set]; exact hSl, hn6⟩, h6.2.1.ints, h5.2.1.ints, below_gb hb_wo h5.2.2 hwR hb_wo.size⟩
        · by_cases hm1 : m_wc = 1
          · subst hm1
            obtain ⟨o2, c2, ho2, hv8⟩ : ∃ o2 c2, Ints wc (some ⟨gr, o2, none⟩) (S.drop 1) ∧ ((cr = 1 ∧ o2 = 0 ∧ c2 = 0) ∨ (¬ cr = 1 ∧ o2 = 1 ∧ c2 = cr - 1)) := by
              by_cases e : cr = 1
              · exact ⟨0, 0, .inl (List.drop_eq_nil_of_le (by omega)), .inl ⟨e, rfl, rfl⟩⟩
              · exact ⟨_, _, by have := ints_drop' HC.out.1.2.1.ints 1; rw [Nat.zero_add] at this; exact this, .inr ⟨e, rfl, rfl⟩⟩
            have HV := Lib.hid (And.intro ho2 hv8)
            clear ho2 hv8
            have hj1 : (1 : Int) ≤ (j : Int) := by omega
            have hcr1 : (1 : Int) ≤ (cr : Int) := by omega
            have hcr1' : 1 ≤ cr := by omega
            go_wp2_with fail
            refine wp_region_any (by kernel_rfl) ?_
            change wpAny _ _ _ _ _ _ _ (World.drew _)
            refine wpAny_take (i := 0) (v := .slice (some ⟨g, 0, none⟩) j cap) rfl (by kernel_rfl) (by kernel_rfl) (by kernel_rfl) (fun _ _ _ h => h) (Or.inl ⟨by rfl, ?_⟩) ?_
            focus ((intro w; go_simp); done)
            refine wpAny_take (i := 1) (v := .slice (some ⟨gr, 0, none⟩) j cr) rfl (by kernel_rfl) (by kernel_rfl) (by kernel_rfl) (fun _ _ _ h => h) (Or.inl ⟨by rfl, ?_⟩) ?_
            focus ((intro w; go_simp); done)
            refine wpAny_take (i := 2) (v := .slice (some ⟨gr, o2, none⟩) (j - 1) c2) rfl (by kernel_rfl) (by kernel_rfl) (by kernel_rfl) (fun _ _ _ h => h) (Or.inl ⟨by rfl, ?_⟩) ?_
            focus
              obtain ⟨-, ⟨e1, e2, e3⟩ | ⟨e1, e2, e3⟩⟩ := HV.out
              · subst e1 e2 e3
                have e4 : j = 1 := by omega
                subst e4
                intro w; go_simp; done
              · have hc1 : ¬ cr ≤ 1 := by omega
                have hc2 : ¬ (cr : Int) = 1 := by omega
                have hc3 : (1 : Int) < (cr : Int) := by omega
                have hc4 : ¬ cr - 1 = 0 := by omega
                have hc5 : 1 < cr := by omega
                subst e2 e3
                intro w; go_simp; done
            refine wpAny_take (i := 3) (v := .slice (some ⟨g, 0, none⟩) j cap) rfl (by kernel_rfl) (by kernel_rfl) (by kernel_rfl) (fun _ _ _ h => h) (Or.inl ⟨by rfl, ?_⟩) ?_
            focus ((intro w; go_simp); done)
            refine wpAny_take (i := 4) (v := .slice (some ⟨gr, o2, none⟩) (j - 1) c2) rfl (by kernel_rfl) (by kernel_rfl) (by kernel_rfl) (fun _ _ _ h => h) (Or.inl ⟨by rfl, ?_⟩) ?_
            focus ((intro w; go_simp); done)
            refine wpAny_done (by kernel_rfl) ?_ _
            go_wp2_with fail
            exact bodyPost_ret (v := .tuple #[.slice (some ⟨g, 0, none⟩) j cap, .slice (some ⟨gr, o2, none⟩) (j - 1) c2]) (by simp [results, Try.results25, go_sem]) rfl ⟨L, S.drop 1, j, j - 1, g, cap, c2, _, rfl, ⟨HL.out, by rw [List.length_drop, hSl], by omega⟩, (show Ints wc.drew _ _ from HC.out.2.2.1.ints), (show Ints wc.drew _ _ from HV.out.1), below_gb hb_wo (gb_drew HC.out.1.2.2) hwR hb_wo.size⟩
          · go_wp2_with fail
            exact bodyPost_ret (v := .tuple #[.slice (some ⟨g, 0, none⟩) j cap, .slice (some ⟨gr, 0, none⟩) j cr]) (by simp [results, Try.results25, go_sem]) rfl ⟨L, S, j, j, g, cap, cr, _, rfl, ⟨HL.out, hSl, hn6⟩, HC.out.2.2.1.ints, HC.out.1.2.1.ints, below_gb hb_wo HC.out.1.2.2 hwR hb_wo.size⟩
      · have hj0' : ¬ (0 : Int) < (j : Int) := by omega
        have HJ := Lib.hid hj0
        clear hj0
        go_wp2_with fail
        exact bodyPost_ret (v := .tuple #[.slice (some ⟨g, 0, none⟩) j cap, .slice (some ⟨gr, 0, none⟩) j cr]) (by simp [results, Try.results25, go_sem]) rfl ⟨L, S, j, j, g, cap, cr, _, rfl, ⟨HL.out, hSl, hn6⟩, HI.out.2.2.1.ints, HI.out.1.2.1.ints, below_gb hb_wo HI.out.1.2.2 hwR hb_wo.size⟩
end Go.Proofs.Ytjfbkafekkbcdaa
