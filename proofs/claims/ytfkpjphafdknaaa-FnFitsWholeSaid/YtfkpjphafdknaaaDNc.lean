/-
  What the draws of the laws on linked nodes and on turned runs give: nets of at most eight runs, by new memory alone.
-/
import Derived.Test.YtfkpjphafdknaaaDNb
import Derived.Test.YtfkpjphafdknaaaRegB
namespace Go.Proofs.Ytfkpjphafdknaaa
open Go.RowKit
set_option linter.unusedVariables false

theorem runsIn_below {w0 w w' : World} {R g cap : Nat} {rs : List Rn} (hb : Below w0.heap.size w0 w) (hR : w0.heap.size ≤ R) (h : RunsIn w w' R g cap rs) : Below w0.heap.size w0 w' := below_gb hb h.2.2 hR hb.size
theorem runs_tail {w : World} {g o : Nat} {rs : List Rn} (h : Runs w (some ⟨g, o, none⟩) rs) : Runs w (some ⟨g, o + 4, none⟩) rs.tail := by
  rcases h with rfl | ⟨B, o', e, hB, hc⟩
  · exact .inl rfl
  · simp at e
    obtain ⟨rfl, rfl⟩ := e
    refine .inr ⟨g, o + 4, rfl, hB, fun i r hi => ?_⟩
    have := hc (i + 1) r (by simpa using hi)
    rw [show o + 4 + i * 4 = o + (i + 1) * 4 by omega]
    exact this
/-- what such a draw gives -/
def NetOf (w : World) (N : Nat) (rs : List Rn) (p : Option Addr) (w' : World) : Prop := (2 ≤ N ∧ N ≤ 6) ∧ rs.length ≤ 8 ∧ Runs w' p rs ∧ Below w.heap.size w w'

set_option maxHeartbeats 2000000 in
theorem drawLinked_is (v : Value) (w : World) (h : Hid (Code' w v)) :
    Calls Try.prog 14 #[v] w fun e w' => ∃ (N : Nat) (rs : List Rn) (p : Option Addr), (∃ c, rs.length ≤ c ∧ e = .returned (.tuple #[.int .i64 N, .slice p rs.length c])) ∧ NetOf w N rs p w' := by
  go_enter Try.func14, Try.ntmps14
  go_wp2_with (go_at_call 43; (with_reducible refine (open_any _ _ h).mono ?_); rintro e wo ⟨rfl, hR_wo, hb_wo, hz_wo⟩; have hs_wo := hb_wo.size; clear hz_wo)
  obtain ⟨R, hRe⟩ : ∃ R, R = w.heap.size := ⟨_, rfl⟩
  rw [← hRe] at hR_wo ⊢
  have hwR : w.heap.size ≤ R := by omega
  clear hRe h
  have hRlt := rdr_lt hR_wo
  go_upto_region 3 with (go_at_call 44; (with_reducible refine (net_is R _ hR_wo).mono ?_); rintro e wn ⟨N, rs, g, cap, rfl, ⟨hN2, hN6⟩, hl8, hri, hR_wn⟩; have hs_wn := hri.2.2.size; have hlg := hri.2.1.lt; have hgw := hri.1; have hnc : rs.length ≤ cap := (by obtain ⟨_, _, h, _⟩ := hri.2.1.body; exact h); have HI := Lib.hid (And.intro hri hR_wn); clear hri)
  have hgR : g ≠ R := by omega
  by_cases h0 : 0 < rs.length
  · have h0' : (0 : Int) < (rs.length : Int) := by omega
    have h1' : (1 : Int) ≤ (rs.length : Int) := by omega
    have h1c : (1 : Int) ≤ (cap : Int) := by omega
    go_wp2_with ((go_at_call 45; (with_reducible refine (pick_any (60) R (3) _ ?_ (by omega) (by omega) (by omega)).mono ?_); (focus ((repeat (first | with_reducible assumption | (with_reducible refine rdr_drewN ?_ _) | (with_reducible refine rdr_drew ?_) | (with_reducible refine rdr_alloc ?_ _) | (with_reducible refine rdr_setCell ?_ (by first | omega | (simp <;> omega) | simp) _) | (with_reducible refine rdr_chain ?_ (by with_reducible assumption)))); done)); rintro e wp ⟨m_wp, hm0_wp, hm1_wp, rfl, hR_wp, hg_wp, hq_wp⟩; have hs_wp := Nat.le_of_eq hq_wp; have ht_wp := Nat.le_of_eq hq_wp.symm; (try simp at hs_wp); (try simp at ht_wp); clear hq_wp))
    · have hx := HI.out.1.moved hg_wp hgR
      have HX := Lib.hid hx
      clear hx
      have hbx : Below w.heap.size w wp := below_gb hb_wo HX.out.2.2 hwR hb_wo.size
      have hws := hbx.size
      by_cases hc : cap = 1
      · subst hc
        go_wp2_with fail
        (refine wp_region_grows (by kernel_rfl) (by kernel_rfl) ?_; intro W_wg hWc_wg hWs_wg hWe_wg; (repeat (go_big_quiet_step (fail))); with_reducible refine wpQuiet_nil ?_; clear hWe_wg hWs_wg hWc_wg W_wg; intro wg hb_wg; obtain ⟨hc_wg, hf_wg⟩ := bcell hb_wg; (try simp only [World.size_drew, World.cell?_drew, World.frozen?_drew, World.heap_drewN, World.cell?_drewN, World.frozen?_drewN] at hc_wg hf_wg); have hs_wg := hb_wg.size; (try simp at hs_wg))
        go_wp2_with fail
        refine bodyPost_ret (v := .tuple #[.int .i64 N, .slice (some ⟨g, 0, none⟩) (rs.length - 1) 0]) (by simp [results, Try.results14, go_sem]; try omega) rfl ⟨N, rs.tail, _, ⟨0, by rw [List.length_tail]; omega, by rw [List.length_tail]⟩, ⟨hN2, hN6⟩, by simp; omega, .inl ?_, hbx.trans (hb_wg.mono hws)⟩
        apply List.eq_nil_of_length_eq_zero; simp; omega
      · have hc' : ¬ cap ≤ 1 := by omega
        have hc2 : ¬ (cap : Int) = 1 := by omega
        have hc3 : (1 : Int) < (cap : Int) := by omega
        have hc4 : ¬ cap - 1 = 0 := by omega
        have hc5 : (1 : Nat) < cap := by omega
        go_wp2_with fail
        (refine wp_region_grows (by kernel_rfl) (by kernel_rfl) ?_; intro W_wg hWc_wg hWs_wg hWe_wg; (repeat (go_big_quiet_step (fail))); with_reducible refine wpQuiet_nil ?_; clear hWe_wg hWs_wg hWc_wg W_wg; intro wg hb_wg; obtain ⟨hc_wg, hf_wg⟩ := bcell hb_wg; (try simp only [World.size_drew, World.cell?_drew, World.frozen?_drew, World.heap_drewN, World.cell?_drewN, World.frozen?_drewN] at hc_wg hf_wg); have hs_wg := hb_wg.size; (try simp at hs_wg))
        go_wp2_with fail
        refine bodyPost_ret (v := .tuple #[.int .i64 N, .slice (some ⟨g, 4, none⟩) (rs.length - 1) (cap - 1)]) (by simp [results, Try.results14, go_sem]) rfl ⟨N, rs.tail, some ⟨g, 0 + 4, none⟩, ⟨cap - 1, by rw [List.length_tail]; omega, by rw [List.length_tail]⟩, ⟨hN2, hN6⟩, by simp; omega, runs_tail (HX.out.2.1.runs.below hb_wg), hbx.trans (hb_wg.mono hws)⟩
    · have hx := HI.out.1.moved hg_wp hgR
      refine bodyPost_ret (v := .tuple #[.int .i64 N, .slice (some ⟨g, 0, none⟩) rs.length cap]) (by simp [results, Try.results14, go_sem]) rfl ⟨N, rs, _, ⟨cap, hnc, rfl⟩, ⟨hN2, hN6⟩, hl8, hx.2.1.runs, below_gb hb_wo hx.2.2 hwR hb_wo.size⟩
  · have h0' : ¬ (0 : Int) < (rs.length : Int) := by omega
    have hx := HI.out.1
    go_wp2_with fail
    refine bodyPost_ret (v := .tuple #[.int .i64 N, .slice (some ⟨g, 0, none⟩) rs.length cap]) (by simp [results, Try.results14, go_sem]) rfl ⟨N, rs, _, ⟨cap, hnc, rfl⟩, ⟨hN2, hN6⟩, hl8, hx.2.1.runs, below_gb hb_wo hx.2.2 hwR hb_wo.size⟩
theorem drawLoops_is (v : Value) (w : World) (h : Hid (Code' w v)) :
    Calls Try.prog 19 #[v] w fun e w' => ∃ (N : Nat) (rs : List Rn) (p : Option Addr), (∃ c, rs.length ≤ c ∧ e = .returned (.tuple #[.int .i64 N, .slice p rs.length c])) ∧ NetOf w N rs p w' := by
  go_enter Try.func19, Try.ntmps19
  go_wp2_with (go_at_call 14; (with_reducible refine (drawLinked_is _ _ h).mono ?_); rintro e w' ⟨N, rs, p, ⟨c, hc, rfl⟩, hn⟩)
  refine bodyPost_ret (v := .tuple #[.int .i64 N, .slice p rs.length c]) (by simp [results, Try.results19, go_sem]) rfl ⟨N, rs, p, ⟨c, hc, rfl⟩, hn⟩

/-- the same, the length apart -/
theorem drawLoops_at (v : Value) (w : World) (h : Hid (Code' w v)) :
    Calls Try.prog 19 #[v] w fun e w' => ∃ (N : Nat) (rs : List Rn) (p : Option Addr) (m : Nat), (∃ c, m ≤ c ∧ e = .returned (.tuple #[.int .i64 N, .slice p m c])) ∧ rs.length = m ∧ NetOf w N rs p w' :=
  (drawLoops_is v w h).mono fun e w' ⟨N, rs, p, ⟨c, hc, he⟩, hn⟩ => ⟨N, rs, p, rs.length, ⟨c, hc, he⟩, rfl, hn⟩

set_option maxHeartbeats 2000000 in
theorem index_is (K R : Nat) (n : Nat) (w : World) (h : Rdr K w R) (hK : K ≤ 1000) (hn : n ≤ 1000) :
    Calls Try.prog 51 #[.pointer (some ⟨R, 0, none⟩), .int .i64 n] w fun e w' => (∃ k : Int, e = .returned (.int .i64 k) ∧ -1 ≤ k ∧ k ≤ n) ∧ Rdr (K + 2) w' R ∧ w.grownBy w' (some R) := by
  have hRlt := rdr_lt h
  by_cases h0 : n = 0
  · subst h0
    go_enter Try.func51, Try.ntmps51
    go_wp2_with ((go_at_call 45; (with_reducible refine (pick_any (K) R (2) _ ?_ (by omega) (by omega) (by omega)).mono ?_); (focus ((repeat (first | with_reducible assumption | (with_reducible refine rdr_drewN ?_ _) | (with_reducible refine rdr_drew ?_) | (with_reducible refine rdr_alloc ?_ _) | (with_reducible refine rdr_setCell ?_ (by first | omega | (simp <;> omega) | simp) _) | (with_reducible refine rdr_chain ?_ (by with_reducible assumption)))); done)); rintro e wq ⟨m_wq, hm0_wq, hm1_wq, rfl, hR_wq, hg_wq, hq_wq⟩; have hs_wq := Nat.le_of_eq hq_wq; have ht_wq := Nat.le_of_eq hq_wq.symm; (try simp at hs_wq); (try simp at ht_wq); clear hq_wq); obtain ⟨zq, hzq⟩ := two_at m_wq hm0_wq hm1_wq (-1) ((0 : Nat) : Int); have hz2 : -1 ≤ zq ∧ zq ≤ 0 := (by rcases (show m_wq = 0 ∨ m_wq = 1 by omega) with rfl | rfl <;> simp at hzq <;> subst hzq <;> simp); have ez : wq.cell? ⟨w.heap.size, m_wq.toNat, none⟩ = some (.int .i64 zq) := (by rw [(gcell hg_wq).1 _ _ (by simp) (by omega)]; simpa using hzq))
    go_ret
    exact ⟨⟨zq, rfl, hz2.1, by simpa using hz2.2⟩, rdr_mono hR_wq (by omega), gb_trans (gb_alloc (gb_refl _ _) _) hg_wq⟩
  · have h1 : 1 ≤ n := by omega
    have hb : ((n : Int) == 0) = false := by
      have : ¬ (n : Int) = 0 := by omega
      simpa using this
    go_enter Try.func51, Try.ntmps51
    go_upto_region 2 with ((go_at_call 45; (with_reducible refine (pick_any (K) R (20) _ ?_ (by omega) (by omega) (by omega)).mono ?_); (focus ((repeat (first | with_reducible assumption | (with_reducible refine rdr_drewN ?_ _) | (with_reducible refine rdr_drew ?_) | (with_reducible refine rdr_alloc ?_ _) | (with_reducible refine rdr_setCell ?_ (by first | omega | (simp <;> omega) | simp) _) | (with_reducible refine rdr_chain ?_ (by with_reducible assumption)))); done)); rintro e wp ⟨m_wp, hm0_wp, hm1_wp, rfl, hR_wp, hg_wp, hq_wp⟩; have hs_wp := Nat.le_of_eq hq_wp; have ht_wp := Nat.le_of_eq hq_wp.symm; (try simp at hs_wp); (try simp at ht_wp); clear hq_wp))
    have hlp : R < wp.heap.size := by omega
    go_wp2_with (first | ((go_at_call 45; (with_reducible refine (pick_any (K + 1) R (2) _ ?_ (by omega) (by omega) (by omega)).mono ?_); (focus ((repeat (first | with_reducible assumption | (with_reducible refine rdr_drewN ?_ _) | (with_reducible refine rdr_drew ?_) | (with_reducible refine rdr_alloc ?_ _) | (with_reducible refine rdr_setCell ?_ (by first | omega | (simp <;> omega) | simp) _) | (with_reducible refine rdr_chain ?_ (by with_reducible assumption)))); done)); rintro e wq ⟨m_wq, hm0_wq, hm1_wq, rfl, hR_wq, hg_wq, hq_wq⟩; have hs_wq := Nat.le_of_eq hq_wq; have ht_wq := Nat.le_of_eq hq_wq.symm; (try simp at hs_wq); (try simp at ht_wq); clear hq_wq); obtain ⟨zq, hzq⟩ := two_at m_wq hm0_wq hm1_wq (-1) (n : Int); have hz2 : -1 ≤ zq ∧ zq ≤ n := (by rcases (show m_wq = 0 ∨ m_wq = 1 by omega) with rfl | rfl <;> simp at hzq <;> subst hzq <;> simp); have ez : wq.cell? ⟨wp.heap.size, m_wq.toNat, none⟩ = some (.int .i64 zq) := (by rw [(gcell hg_wq).1 _ _ (by simp) (by omega)]; simpa using hzq)) | (go_at_call 45; (with_reducible refine (pick_any (K + 1) R ((n : Int)) _ ?_ (by omega) (by omega) (by omega)).mono ?_); (focus ((repeat (first | with_reducible assumption | (with_reducible refine rdr_drewN ?_ _) | (with_reducible refine rdr_drew ?_) | (with_reducible refine rdr_alloc ?_ _) | (with_reducible refine rdr_setCell ?_ (by first | omega | (simp <;> omega) | simp) _) | (with_reducible refine rdr_chain ?_ (by with_reducible assumption)))); done)); rintro e wq ⟨m_wq, hm0_wq, hm1_wq, rfl, hR_wq, hg_wq, hq_wq⟩; have hs_wq := Nat.le_of_eq hq_wq; have ht_wq := Nat.le_of_eq hq_wq.symm; (try simp at hs_wq); (try simp at ht_wq); clear hq_wq))
    · go_ret
      exact ⟨⟨zq, rfl, hz2⟩, rdr_mono hR_wq (by omega), gb_trans (gb_alloc hg_wp _) hg_wq⟩
    · go_ret
      exact ⟨⟨m_wq, rfl, by omega, by omega⟩, rdr_mono hR_wq (by omega), gb_trans hg_wp hg_wq⟩

set_option maxHeartbeats 2000000 in
theorem drawBack_is (v : Value) (w : World) (h : Hid (Code' w v)) :
    Calls Try.prog 22 #[v] w fun e w' => ∃ (N : Nat) (rs : List Rn) (p : Option Addr) (k : Int), (∃ c, e = .returned (.tuple #[.int .i64 N, .slice p rs.length c, .int .i64 k])) ∧ NetOf w N rs p w' ∧ -1 ≤ k ∧ k ≤ 8 := by
  go_enter Try.func22, Try.ntmps22
  go_wp2_with (go_at_call 43; (with_reducible refine (open_any _ _ h).mono ?_); rintro e wo ⟨rfl, hR_wo, hb_wo, hz_wo⟩; have hs_wo := hb_wo.size; clear hz_wo)
  obtain ⟨R, hRe⟩ : ∃ R, R = w.heap.size := ⟨_, rfl⟩
  rw [← hRe] at hR_wo ⊢
  have hwR : w.heap.size ≤ R := by omega
  clear hRe h
  have hRlt := rdr_lt hR_wo
  go_wp2_with (first | (go_at_call 44; (with_reducible refine (net_is R _ hR_wo).mono ?_); rintro e wn ⟨N, rs, g, cap, rfl, ⟨hN2, hN6⟩, hl8, hri, hR_wn⟩; have hs_wn := hri.2.2.size; have hlg := hri.2.1.lt; have hgw := hri.1; have HI := Lib.hid (And.intro hri hR_wn); clear hri) | (go_at_call 51; (with_reducible refine (index_is 60 R rs.length _ HI.out.2 (by omega) (by omega)).mono ?_); rintro e wq ⟨⟨k, rfl, hk1, hk2⟩, hR_wq, hg_wq⟩))
  have hgR : g ≠ R := by omega
  have hx := HI.out.1.moved hg_wq hgR
  refine bodyPost_ret (v := .tuple #[.int .i64 N, .slice (some ⟨g, 0, none⟩) rs.length cap, .int .i64 k]) (by simp [results, Try.results22, go_sem]) rfl ⟨N, rs, _, k, ⟨cap, rfl⟩, ⟨⟨hN2, hN6⟩, hl8, hx.2.1.runs, below_gb hb_wo hx.2.2 hwR hb_wo.size⟩, hk1, by omega⟩
end Go.Proofs.Ytfkpjphafdknaaa
