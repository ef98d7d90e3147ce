/-
  What the draws of the laws on linked nodes and on turned runs give: nets of at most eight runs, by new memory alone.
-/
import Derived.Test.YtimghdffmdcheaaDNb
import Derived.Test.YtimghdffmdcheaaRegB
namespace Go.Proofs.Ytimghdffmdcheaa
open Go.RowKit
set_option linter.unusedVariables false

theorem runsIn_below {w0 w w' : World} {R g cap : Nat} {rs : List Rn} (hb : Below w0.heap.size w0 w) (hR : w0.heap.size ≤ R) (h : RunsIn w w' R g cap rs) : Below w0.heap.size w0 w' := below_gb hb h.2.2 hR hb.size
theorem runs_tail {w : World} {g o : Nat} {rs : List Rn} (h : Runs w (some ⟨g, o, none⟩) rs) : Runs w (some ⟨g, o + 4, none⟩) rs.tail := by
  rcases h with rfl | ⟨B, o', e, hB, hc⟩
  · exact .inl rfl
  · simp at e
    obtain ⟨rfl, rfl⟩ := e
    refine .inr ⟨g, o + 4, rfl, hB, fun i r hi => ?_⟩
    have := hc (i + 1) r (by simpa using hi)
    rw [show o + 4 + i * 4 = o + (i + 1) * 4 by omega]
    exact this
/-- what such a draw gives -/
def NetOf (w : World) (N : Nat) (rs : List Rn) (p : Option Addr) (w' : World) : Prop := (2 ≤ N ∧ N ≤ 6) ∧ rs.length ≤ 8 ∧ Runs w' p rs ∧ Below w.heap.size w w'

set_option maxHeartbeats 2000000 in
theorem index_is (K R : Nat) (n : Nat) (w : World) (h : Rdr K w R) (hK : K ≤ 1000) (hn : n ≤ 1000) :
    Calls Try.prog 60 #[.pointer (some ⟨R, 0, none⟩), .int .i64 n] w fun e w' => (∃ k : Int, e = .returned (.int .i64 k) ∧ -1 ≤ k ∧ k ≤ n) ∧ Rdr (K + 2) w' R ∧ w.grownBy w' (some R) := by
  have hRlt := rdr_lt h
  by_cases h0 : n = 0
  · subst h0
    go_enter Try.func60, Try.ntmps60
    go_wp2_with ((go_at_call 59; (with_reducible refine (pick_any (K) R (2) _ ?_ (by omega) (by omega) (by omega)).mono ?_); (focus ((repeat (first | with_reducible assumption | (with_reducible refine rdr_drewN ?_ _) | (with_reducible refine rdr_drew ?_) | (with_reducible refine rdr_alloc ?_ _) | (with_reducible refine rdr_setCell ?_ (by first | omega | (simp <;> omega) | simp) _) | (with_reducible refine rdr_chain ?_ (by with_reducible assumption)))); done)); rintro e wq ⟨m_wq, hm0_wq, hm1_wq, rfl, hR_wq, hg_wq, hq_wq⟩; have hs_wq := Nat.le_of_eq hq_wq; have ht_wq := Nat.le_of_eq hq_wq.symm; (try simp at hs_wq); (try simp at ht_wq); clear hq_wq); obtain ⟨zq, hzq⟩ := two_at m_wq hm0_wq hm1_wq (-1) ((0 : Nat) : Int); have hz2 : -1 ≤ zq ∧ zq ≤ 0 := (by rcases (show m_wq = 0 ∨ m_wq = 1 by omega) with rfl | rfl <;> simp at hzq <;> subst hzq <;> simp); have ez : wq.cell? ⟨w.heap.size, m_wq.toNat, none⟩ = some (.int .i64 zq) := (by rw [(gcell hg_wq).1 _ _ (by simp) (by omega)]; simpa using hzq))
    go_ret
    exact ⟨⟨zq, rfl, hz2.1, by simpa using hz2.2⟩, rdr_mono hR_wq (by omega), gb_trans (gb_alloc (gb_refl _ _) _) hg_wq⟩
  · have h1 : 1 ≤ n := by omega
    have hb : ((n : Int) == 0) = false := by
      have : ¬ (n : Int) = 0 := by omega
      simpa using this
    go_enter Try.func60, Try.ntmps60
    go_upto_region 2 with ((go_at_call 59; (with_reducible refine (pick_any (K) R (20) _ ?_ (by omega) (by omega) (by omega)).mono ?_); (focus ((repeat (first | with_reducible assumption | (with_reducible refine rdr_drewN ?_ _) | (with_reducible refine rdr_drew ?_) | (with_reducible refine rdr_alloc ?_ _) | (with_reducible refine rdr_setCell ?_ (by first | omega | (simp <;> omega) | simp) _) | (with_reducible refine rdr_chain ?_ (by with_reducible assumption)))); done)); rintro e wp ⟨m_wp, hm0_wp, hm1_wp, rfl, hR_wp, hg_wp, hq_wp⟩; have hs_wp := Nat.le_of_eq hq_wp; have ht_wp := Nat.le_of_eq hq_wp.symm; (try simp at hs_wp); (try simp at ht_wp); clear hq_wp))
    have hlp : R < wp.heap.size := by omega
    go_wp2_with (first | ((go_at_call 59; (with_reducible refine (pick_any (K + 1) R (2) _ ?_ (by omega) (by omega) (by omega)).mono ?_); (focus ((repeat (first | with_reducible assumption | (with_reducible refine rdr_drewN ?_ _) | (with_reducible refine rdr_drew ?_) | (with_reducible refine rdr_alloc ?_ _) | (with_reducible refine rdr_setCell ?_ (by first | omega | (simp <;> omega) | simp) _) | (with_reducible refine rdr_chain ?_ (by with_reducible assumption)))); done)); rintro e wq ⟨m_wq, hm0_wq, hm1_wq, rfl, hR_wq, hg_wq, hq_wq⟩; have hs_wq := Nat.le_of_eq hq_wq; have ht_wq := Nat.le_of_eq hq_wq.symm; (try simp at hs_wq); (try simp at ht_wq); clear hq_wq); obtain ⟨zq, hzq⟩ := two_at m_wq hm0_wq hm1_wq (-1) (n : Int); have hz2 : -1 ≤ zq ∧ zq ≤ n := (by rcases (show m_wq = 0 ∨ m_wq = 1 by omega) with rfl | rfl <;> simp at hzq <;> subst hzq <;> simp); have ez : wq.cell? ⟨wp.heap.size, m_wq.toNat, none⟩ = some (.int .i64 zq) := (by rw [(gcell hg_wq).1 _ _ (by simp) (by omega)]; simpa using hzq)) | (go_at_call 59; (with_reducible refine (pick_any (K + 1) R ((n : Int)) _ ?_ (by omega) (by omega) (by omega)).mono ?_); (focus ((repeat (first | with_reducible assumption | (with_reducible refine rdr_drewN ?_ _) | (with_reducible refine rdr_drew ?_) | (with_reducible refine rdr_alloc ?_ _) | (with_reducible refine rdr_setCell ?_ (by first | omega | (simp <;> omega) | simp) _) | (with_reducible refine rdr_chain ?_ (by with_reducible assumption)))); done)); rintro e wq ⟨m_wq, hm0_wq, hm1_wq, rfl, hR_wq, hg_wq, hq_wq⟩; have hs_wq := Nat.le_of_eq hq_wq; have ht_wq := Nat.le_of_eq hq_wq.symm; (try simp at hs_wq); (try simp at ht_wq); clear hq_wq))
    · go_ret
      exact ⟨⟨zq, rfl, hz2⟩, rdr_mono hR_wq (by omega), gb_trans (gb_alloc hg_wp _) hg_wq⟩
    · go_ret
      exact ⟨⟨m_wq, rfl, by omega, by omega⟩, rdr_mono hR_wq (by omega), gb_trans hg_wp hg_wq⟩

end Go.Proofs.Ytimghdffmdcheaa
