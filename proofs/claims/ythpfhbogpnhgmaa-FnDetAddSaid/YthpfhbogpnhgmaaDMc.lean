/-
  What the draws of the laws on matrices give: a matrix; two.
-/
import Derived.Test.YthpfhbogpnhgmaaDMb
namespace Go.Proofs.Ythpfhbogpnhgmaa
open Go.RowKit
set_option linter.unusedVariables false

theorem mat_int (K R : Nat) (z : Int) (n : Nat) (w : World) (h : Rdr K w R) (hz : z = (n : Int)) (hK : K ≤ 100) (hn1 : 1 ≤ n) (hn5 : n ≤ 5) :
    Calls Try.prog 43 #[.pointer (some ⟨R, 0, none⟩), .int .i64 z] w fun e w' => ∃ (L : List (List Int)) (bs : List (Nat × Nat)) (g k cap : Nat), e = .returned (.slice (some ⟨g, 0, none⟩) k cap) ∧ GridD n k L ∧ GridIn w w' R g cap bs L ∧ Rdr (K + 40) w' R := by subst hz; exact mat_is K R n w h hK hn1 hn5
theorem GridD.up {n m k : Nat} {L : List (List Int)} (h : GridD n k L) (hm : n ≤ m) : GridD m k L := ⟨h.1, by have := h.2.1; omega, fun r hr => by have := h.2.2 r hr; omega⟩
theorem below_gbM {B R : Nat} {a w w' : World} (h : Below B a w) (hg : w.grownBy w' (some R)) (hR : B ≤ R) (hs : B ≤ w.heap.size) : Below B a w' := below_gr h hg hR hs
/-- a list of rows of a call's own -/
def MatD (w : World) (n g k cap : Nat) (bs : List (Nat × Nat)) (L : List (List Int)) (w' : World) : Prop := GridD n k L ∧ GridO w' 3 29 w.heap.size g cap bs L ∧ Below w.heap.size w w'
set_option maxHeartbeats 4000000 in
set_option maxRecDepth 100000 in
theorem drawMatDet_is (v : Value) (w : World) (h : Hid (Code' w v)) :
    Calls Try.prog 14 #[v] w fun e w' => ∃ (L : List (List Int)) (bs : List (Nat × Nat)) (g k cap : Nat), e = .returned (.slice (some ⟨g, 0, none⟩) k cap) ∧ MatD w 4 g k cap bs L w' := by
  go_enter Try.func14, Try.ntmps14
  go_upto_region 2 with (go_at_call 42; (with_reducible refine (open_any _ _ h).mono ?_); rintro e wo ⟨rfl, hR_wo, hb_wo, hz_wo⟩; have hs_wo := hb_wo.size; clear hz_wo)
  obtain ⟨R, hRe⟩ : ∃ R, R = w.heap.size := ⟨_, rfl⟩
  rw [← hRe] at hR_wo ⊢
  have hwR : w.heap.size ≤ R := by omega
  have hRw : R ≤ w.heap.size := by omega
  clear hRe h
  have hRlt := rdr_lt hR_wo
  have HW := Lib.hid hb_wo
  clear hb_wo
  go_wp2_with (first | ((go_at_call 44; (with_reducible refine (pick_any (0) R (4) _ ?_ (by omega) (by omega) (by omega)).mono ?_); (focus ((repeat (first | with_reducible assumption | (with_reducible refine rdr_drewN ?_ _) | (with_reducible refine rdr_drew ?_) | (with_reducible refine rdr_alloc ?_ _) | (with_reducible refine rdr_setCell ?_ (by first | omega | (simp <;> omega) | simp) _) | (with_reducible refine rdr_chain ?_ (by with_reducible assumption)))); done)); rintro e wp ⟨m_wp, hm0_wp, hm1_wp, rfl, hR_wp, hg_wp, hq_wp⟩; have hs_wp := Nat.le_of_eq hq_wp; have ht_wp := Nat.le_of_eq hq_wp.symm; (try simp at hs_wp); (try simp at ht_wp); clear hq_wp); have HP := Lib.hid hg_wp) | (go_at_call 43; (with_reducible refine (mat_int 1 R (1 + m_wp) (1 + m_wp).toNat _ hR_wp (by omega) (by omega) (by omega) (by omega)).mono ?_); rintro e wm ⟨L, bs, g, k, cap, rfl, hd, hg, hR_wm⟩; have HM := Lib.hid (And.intro hd hg); clear hd hg))
  have h1 : wo.grownBy wm (some R) := gb_trans HP.out HM.out.2.2
  have h2 := HM.out.2.1.mono (show w.heap.size ≤ wp.heap.size by omega)
  exact bodyPost_ret (v := .slice (some ⟨g, 0, none⟩) k cap) (by simp [results, Try.results14, go_sem]) rfl ⟨L, bs, g, k, cap, rfl, HM.out.1.up (by omega), h2, below_gbM HW.out h1 hwR hs_wo⟩
set_option maxHeartbeats 4000000 in
set_option maxRecDepth 100000 in
theorem drawMatTimes_is (v : Value) (w : World) (h : Hid (Code' w v)) :
    Calls Try.prog 19 #[v] w fun e w' => ∃ (A B : List (List Int)) (bs bt : List (Nat × Nat)) (g k cap gx kx cx : Nat), e = .returned (.tuple #[.slice (some ⟨g, 0, none⟩) k cap, .slice (some ⟨gx, 0, none⟩) kx cx]) ∧ MatD w 4 g k cap bs A w' ∧ MatD w 5 gx kx cx bt B w' := by
  go_enter Try.func19, Try.ntmps19
  go_upto_region 2 with (go_at_call 42; (with_reducible refine (open_any _ _ h).mono ?_); rintro e wo ⟨rfl, hR_wo, hb_wo, hz_wo⟩; have hs_wo := hb_wo.size; clear hz_wo)
  obtain ⟨R, hRe⟩ : ∃ R, R = w.heap.size := ⟨_, rfl⟩
  rw [← hRe] at hR_wo ⊢
  have hwR : w.heap.size ≤ R := by omega
  have hRw : R ≤ w.heap.size := by omega
  clear hRe h
  have hRlt := rdr_lt hR_wo
  have HW := Lib.hid hb_wo
  clear hb_wo
  go_upto_region 3 with ((go_at_call 44; (with_reducible refine (pick_any (0) R (4) _ ?_ (by omega) (by omega) (by omega)).mono ?_); (focus ((repeat (first | with_reducible assumption | (with_reducible refine rdr_drewN ?_ _) | (with_reducible refine rdr_drew ?_) | (with_reducible refine rdr_alloc ?_ _) | (with_reducible refine rdr_setCell ?_ (by first | omega | (simp <;> omega) | simp) _) | (with_reducible refine rdr_chain ?_ (by with_reducible assumption)))); done)); rintro e wp ⟨m_wp, hm0_wp, hm1_wp, rfl, hR_wp, hg_wp, hq_wp⟩; have hs_wp := Nat.le_of_eq hq_wp; have ht_wp := Nat.le_of_eq hq_wp.symm; (try simp at hs_wp); (try simp at ht_wp); clear hq_wp); have HP := Lib.hid hg_wp)
  obtain ⟨n, hn⟩ : ∃ n : Nat, 1 + m_wp = n := ⟨(1 + m_wp).toNat, by omega⟩
  have hn1 : 1 ≤ n := by omega
  have hn4 : n ≤ 4 := by omega
  rw [hn]
  go_wp2_with (first | (go_at_call 43; (with_reducible refine (mat_is 1 R n _ hR_wp (by omega) (by omega) (by omega)).mono ?_); rintro e wm ⟨L, bs, g, k, cap, rfl, hd, hg, hR_wm⟩; have HM := Lib.hid (And.intro hd hg); have hs_wm := hg.2.size; clear hd hg) | ((go_at_call 44; (with_reducible refine (pick_any (41) R (20) _ ?_ (by omega) (by omega) (by omega)).mono ?_); (focus ((repeat (first | with_reducible assumption | (with_reducible refine rdr_drewN ?_ _) | (with_reducible refine rdr_drew ?_) | (with_reducible refine rdr_alloc ?_ _) | (with_reducible refine rdr_setCell ?_ (by first | omega | (simp <;> omega) | simp) _) | (with_reducible refine rdr_chain ?_ (by with_reducible assumption)))); done)); rintro e wq ⟨m_wq, hm0_wq, hm1_wq, rfl, hR_wq, hg_wq, hq_wq⟩; have hs_wq := Nat.le_of_eq hq_wq; have ht_wq := Nat.le_of_eq hq_wq.symm; (try simp at hs_wq); (try simp at ht_wq); clear hq_wq); have HQ := Lib.hid hg_wq) | (go_at_call 43; (with_reducible refine (mat_int 42 R _ n _ hR_wq (by omega) (by omega) (by omega) (by omega)).mono ?_); rintro e wn ⟨B, bt, gx, kx, cx, rfl, hd, hg, hR_wn⟩; have HN := Lib.hid (And.intro (hd.up (Nat.le_succ_of_le (Nat.le_refl n))) hg); clear hd hg) | (go_at_call 43; (with_reducible refine (mat_int 42 R _ (n + 1) _ hR_wq (by omega) (by omega) (by omega) (by omega)).mono ?_); rintro e wn ⟨B, bt, gx, kx, cx, rfl, hd, hg, hR_wn⟩; have HN := Lib.hid (And.intro hd hg); clear hd hg))
  all_goals
    have hRp : R < wp.heap.size := by omega
    have hA := ((HM.out.2.moved HQ.out hRp).moved HN.out.2.2 hRp)
    have h1 : wo.grownBy wn (some R) := gb_trans HP.out hA.2
    have h2 := hA.1.mono (show w.heap.size ≤ wp.heap.size by omega)
    have h3 := HN.out.2.1.mono (show w.heap.size ≤ wq.heap.size by omega)
    have hB := below_gbM HW.out h1 hwR hs_wo
    exact bodyPost_ret (v := .tuple #[.slice (some ⟨g, 0, none⟩) k cap, .slice (some ⟨gx, 0, none⟩) kx cx]) (by simp [results, Try.results19, go_sem]) rfl ⟨L, B, bs, bt, g, k, cap, gx, kx, cx, rfl, ⟨HM.out.1.up (by omega), h2, hB⟩, ⟨HN.out.1.up (by omega), h3, hB⟩⟩
end Go.Proofs.Ythpfhbogpnhgmaa
