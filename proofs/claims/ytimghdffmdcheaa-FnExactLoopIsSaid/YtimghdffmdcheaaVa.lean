/-
  The program's loops: whether a number is that of a run, the run as a number goes through it, the number from a node on.
-/
import Derived.Test.YtimghdffmdcheaaLo
import Derived.Test.YtimghdffmdcheaaLp
import Derived.Test.YtimghdffmdcheaaNa
import Derived.Test.YtimghdffmdcheaaNg
namespace Go.Proofs.Ytimghdffmdcheaa
open Go.RowKit
set_option linter.unusedVariables false

theorem run_f1 (a b c d : Value) (w : World) : (Instr.field 42 (.agg #[a, b, c, d]) 1).run Try.prog w = .ok b w := by
  simp [Instr.field, asAgg, part, go_sem, Try.underlying42]
theorem run_f2 (a b c d : Value) (w : World) : (Instr.field 42 (.agg #[a, b, c, d]) 2).run Try.prog w = .ok c w := by
  simp [Instr.field, asAgg, part, go_sem, Try.underlying42]
theorem iNumValid (p : Option Addr) (m c : Nat) (z : Int) (b : Bool) (w : World) (hl : m ≤ 4000000000000000000) (h : decide (z ≠ 0 ∧ -(m : Int) ≤ z ∧ z ≤ m) = b) :
    Calls Try.prog 51 #[.slice p m c, .int .i64 z] w fun e w' => e = .returned (.bool b) ∧ w = w' := by
  by_cases h0 : z = 0
  · subst h0
    obtain rfl : b = false := by rw [← h]; simp
    clear h
    go_enter Try.func51, Try.ntmps51
    go_wp2_with fail
    go_ret
    simp
  · have h0' : (z != 0) = true := by simpa using h0
    have h0'' : (z == 0) = false := by simpa using h0
    have ci := fun w => Lib.hid (nWithin z m b w (by omega) (by omega) (by rw [← h]; simp [h0]))
    clear h
    go_enter Try.func51, Try.ntmps51
    go_wp2_with ((go_at_call 80; (with_reducible refine ((ci _).out).mono ?_); rintro e w' ⟨rfl, rfl⟩))
    go_ret
    exact ⟨rfl, rfl⟩

set_option maxHeartbeats 1000000 in
theorem iAlong (m c : Nat) (p : Option Addr) (rs : List Rn) (z : Int) (w : World) (h : Runs w p rs) (hm : rs.length = m) (hl : m ≤ 12) (h0 : 0 ≤ ix z) (h1 : ix z < rs.length) (hs : -100000 ≤ er rs z ∧ er rs z ≤ 100000) :
    Calls Try.prog 52 #[.slice p m c, .int .i64 z] w fun e w' => e = .returned (.agg #[.int .i64 (bg rs z), .int .i64 (en rs z), .int .i64 (er rs z), .int .i64 (runOf rs (ix z)).g]) ∧ Below w.heap.size w w' := by
  obtain ⟨u, hu⟩ : ∃ u : Nat, ix z = u := ⟨(ix z).toNat, by omega⟩
  have hz : (z.natAbs : Int) = (u : Int) + 1 := by unfold ix at hu; omega
  have hum : (u : Int) < (m : Int) := by omega
  obtain ⟨B, o, r, rfl, hr, hB, x0, x1, x2, x3⟩ := h.at (i := u) (by omega)
  have er' : runOf rs (u : Int) = r := by unfold runOf; simp [hr]
  by_cases hz0 : z < 0
  · have hs' : -100000 ≤ r.s ∧ r.s ≤ 100000 := by
      unfold er at hs; rw [if_pos hz0, hu, er'] at hs; omega
    have HX := Lib.hid (show (bg rs z = r.t ∧ en rs z = r.f) ∧ er rs z = -r.s ∧ (runOf rs (ix z)).g = r.g by unfold bg en er; rw [if_pos hz0, if_pos hz0, if_pos hz0, hu, er']; exact ⟨⟨rfl, rfl⟩, rfl, rfl⟩)
    have c1 := fun w => Lib.hid (turned_is r.f r.t r.s r.g w hs'.1 hs'.2)
    clear hs h hm h0 h1 hu hr er'
    obtain rfl : z = -((u : Int) + 1) := by omega
    go_enter Try.func52, Try.ntmps52
    go_wp2_with ((go_at_call 70; (with_reducible refine ((c1 _).out).mono ?_); rintro e wt ⟨rfl, hb_wt⟩; have hs_wt := hb_wt.size; (try simp at hs_wt)); obtain ⟨hcn, hfn⟩ := bcell hb_wt; have y0 : wt.cell? ⟨w.heap.size, 0, none⟩ = some (.int .i64 0) := (by rw [hcn _ _ (by simp)]; simp [go_sem]); have y1 : wt.cell? ⟨w.heap.size, 1, none⟩ = some (.int .i64 0) := (by rw [hcn _ _ (by simp)]; simp [go_sem]); have y2 : wt.cell? ⟨w.heap.size, 2, none⟩ = some (.int .i64 0) := (by rw [hcn _ _ (by simp)]; simp [go_sem]); have y3 : wt.cell? ⟨w.heap.size, 3, none⟩ = some (.int .i64 0) := (by rw [hcn _ _ (by simp)]; simp [go_sem]); have z0 : ∀ o, wt.frozen? ⟨w.heap.size, o, none⟩ = false := (fun o => by rw [hfn _ _ (by simp)]; simp [go_sem]); clear hcn hfn)
    refine bodyPost_ret (v := .agg #[.int .i64 r.t, .int .i64 r.f, .int .i64 (-r.s), .int .i64 r.g]) (by simp [results, Try.results52, go_sem, y0, y1, y2, y3]) rfl ⟨by rw [HX.out.1.1, HX.out.1.2, HX.out.2.1, HX.out.2.2], (by repeat (first | assumption | exact Below.refl _ _ | (refine below_chain ?_ (by assumption) (by first | omega | (simp <;> omega) | simp)) | (refine Below.alloc ?_ (by first | omega | (simp <;> omega) | simp) _) | (apply below_drewN) | (apply below_drew) | (refine Below.setCell ?_ (by first | omega | (simp <;> omega) | simp) _)))⟩
  · have HX := Lib.hid (show (bg rs z = r.f ∧ en rs z = r.t) ∧ er rs z = r.s ∧ (runOf rs (ix z)).g = r.g by unfold bg en er; rw [if_neg hz0, if_neg hz0, if_neg hz0, hu, er']; exact ⟨⟨rfl, rfl⟩, rfl, rfl⟩)
    clear hs h hm h0 h1 hu hr er'
    obtain rfl : z = ((u : Int) + 1) := by omega
    go_enter Try.func52, Try.ntmps52
    go_wp2_with fail
    refine bodyPost_ret (v := .agg #[.int .i64 r.f, .int .i64 r.t, .int .i64 r.s, .int .i64 r.g]) (by simp [results, Try.results52, go_sem]) rfl ⟨by rw [HX.out.1.1, HX.out.1.2, HX.out.2.1, HX.out.2.2], (by repeat (first | assumption | exact Below.refl _ _ | (refine below_chain ?_ (by assumption) (by first | omega | (simp <;> omega) | simp)) | (refine Below.alloc ?_ (by first | omega | (simp <;> omega) | simp) _) | (apply below_drewN) | (apply below_drew) | (refine Below.setCell ?_ (by first | omega | (simp <;> omega) | simp) _)))⟩

set_option maxHeartbeats 1000000 in
theorem iNumFrom (m c k : Nat) (p : Option Addr) (rs : List Rn) (d : Int) (w : World) (h : Runs w p rs) (hm : rs.length = m) (hl : m ≤ 12) (hk : k < m) :
    Calls Try.prog 95 #[.slice p m c, .int .i64 k, .int .i64 d] w fun e w' => e = .returned (.int .i64 (numAt rs k d)) ∧ w = w' := by
  have hk' : (k : Int) < (m : Int) := by omega
  obtain ⟨B, o, r, rfl, hr, hB, x0, x1, x2, x3⟩ := h.at (i := k) (by omega)
  have er' : runOf rs (k : Int) = r := by unfold runOf; simp [hr]
  have HE := Lib.hid er'
  clear h hm hr er'
  by_cases h1 : d = r.f
  · have HX : Hid (numAt rs k d = (k : Int) + 1) := Lib.hid (by unfold numAt; rw [HE.out, if_pos h1])
    subst h1
    go_enter Try.func95, Try.ntmps95
    go_wp2_with fail
    go_ret
    exact ⟨ret_int HX.out.symm, rfl⟩
  · have h1' : (d == r.f) = false := by simpa using h1
    by_cases h2 : d = r.t
    · have HX : Hid (numAt rs k d = -((k : Int) + 1)) := Lib.hid (by unfold numAt; rw [HE.out, if_neg h1, if_pos h2])
      subst h2
      go_enter Try.func95, Try.ntmps95
      go_wp2_with fail
      go_ret
      exact ⟨ret_int (by rw [HX.out]), rfl⟩
    · have h2' : (d == r.t) = false := by simpa using h2
      have HX : Hid (numAt rs k d = 0) := Lib.hid (by unfold numAt; rw [HE.out, if_neg h1, if_neg h2])
      go_enter Try.func95, Try.ntmps95
      go_wp2_with fail
      go_ret
      exact ⟨ret_int HX.out.symm, rfl⟩
end Go.Proofs.Ytimghdffmdcheaa
