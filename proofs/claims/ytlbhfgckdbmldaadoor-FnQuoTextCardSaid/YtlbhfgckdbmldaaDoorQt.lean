import Derived.Test.YtlbhfgckdbmldaaDoorQc
namespace Go.Proofs.YtlbhfgckdbmldaaDoor
open Go.RowKit

theorem below_chain {B : Nat} {w W w' : World} (h1 : Below B w W) (h2 : Below W.heap.size W w') (hs : B ≤ W.heap.size) : Below B w w' := h1.trans (h2.mono hs)

theorem toquo_any (a b : Int) (w : World) :
    Calls Tryd.prog 10 #[.agg #[.int .i64 a, .int .i64 b]] w fun e w' => e = .returned (.agg #[.int .i64 a, .int .i64 b]) ∧ Below w.heap.size w w' := by
  go_enter Tryd.func10, Tryd.ntmps10
  go_wp2
  exact bodyPost_ret (v := .agg #[.int .i64 a, .int .i64 b]) (by simp [results, Tryd.results10, go_sem]) rfl ⟨rfl, (by repeat (first | assumption | exact Below.refl _ _ | (refine below_chain ?_ (by assumption) (by first | omega | (simp <;> omega) | simp)) | (refine Below.alloc ?_ (by first | omega | (simp <;> omega) | simp) _) | (apply below_drewN) | (apply below_drew) | (refine Below.setCell ?_ (by first | omega | (simp <;> omega) | simp) _)))⟩
/-- the interface value that the program makes of a quotient -/
def numB (t l : Int) : Value := if Quo.qv t l then (if l = 1 then .iface 41 (.int .i64 t) else .iface 44 (.agg #[.int .i64 t, .int .i64 l])) else .nilIface
theorem numB_no {t l : Int} (h : Quo.qv t l = false) : numB t l = .nilIface := by unfold numB; simp [h]
theorem numB_one {t : Int} (h : Quo.qv t 1 = true) : numB t 1 = .iface 41 (.int .i64 t) := by unfold numB; simp [h]
theorem numB_more {t l : Int} (h : Quo.qv t l = true) (h1 : l ≠ 1) : numB t l = .iface 44 (.agg #[.int .i64 t, .int .i64 l]) := by unfold numB; simp [h, h1]

theorem numberOf_any (t l : Int) (w : World) :
    Calls Tryd.prog 13 #[.agg #[.int .i64 t, .int .i64 l]] w fun e w' => e = .returned (.tuple #[numB t l, .bool (Quo.qv t l)]) ∧ Below w.heap.size w w' := by
  by_cases h : Quo.qv t l = true
  · rw [h]
    by_cases h1 : l = 1
    · subst h1
      rw [numB_one h]
      go_enter Tryd.func13, Tryd.ntmps13
      go_wp2_with ((go_at_call 21; (with_reducible refine (ivalid_is _ _ true _ h).mono ?_); rintro e wn ⟨rfl, hbn⟩; obtain ⟨hcn, hfn⟩ := bcell hbn; have hzn : w.heap.size < wn.heap.size := (by have := hbn.size; (try simp at this); omega)))
      go_ret2
      exact ⟨rfl, (by repeat (first | assumption | exact Below.refl _ _ | (refine below_chain ?_ (by assumption) (by first | omega | (simp <;> omega) | simp)) | (refine Below.alloc ?_ (by first | omega | (simp <;> omega) | simp) _) | (apply below_drewN) | (apply below_drew) | (refine Below.setCell ?_ (by first | omega | (simp <;> omega) | simp) _)))⟩
    · rw [numB_more h h1]
      have h1' : (l == 1) = false := by simpa using h1
      go_enter Tryd.func13, Tryd.ntmps13
      go_wp2_with ((go_at_call 21; (with_reducible refine (ivalid_is _ _ true _ h).mono ?_); rintro e wn ⟨rfl, hbn⟩; obtain ⟨hcn, hfn⟩ := bcell hbn; have hzn : w.heap.size < wn.heap.size := (by have := hbn.size; (try simp at this); omega)))
      go_ret2
      exact ⟨rfl, (by repeat (first | assumption | exact Below.refl _ _ | (refine below_chain ?_ (by assumption) (by first | omega | (simp <;> omega) | simp)) | (refine Below.alloc ?_ (by first | omega | (simp <;> omega) | simp) _) | (apply below_drewN) | (apply below_drew) | (refine Below.setCell ?_ (by first | omega | (simp <;> omega) | simp) _)))⟩
  · have h' : Quo.qv t l = false := by simpa using h
    rw [h', numB_no h']
    clear h
    go_enter Tryd.func13, Tryd.ntmps13
    go_wp2_with ((go_at_call 21; (with_reducible refine (ivalid_is _ _ false _ h').mono ?_); rintro e wn ⟨rfl, hbn⟩; obtain ⟨hcn, hfn⟩ := bcell hbn; have hzn : w.heap.size < wn.heap.size := (by have := hbn.size; (try simp at this); omega)))
    go_ret2
    exact ⟨rfl, (by repeat (first | assumption | exact Below.refl _ _ | (refine below_chain ?_ (by assumption) (by first | omega | (simp <;> omega) | simp)) | (refine Below.alloc ?_ (by first | omega | (simp <;> omega) | simp) _) | (apply below_drewN) | (apply below_drew) | (refine Below.setCell ?_ (by first | omega | (simp <;> omega) | simp) _)))⟩

theorem numberOf_is (t l : Int) (x : Value) (b : Bool) (w : World) (hx : numB t l = x) (hb : Quo.qv t l = b) :
    Calls Tryd.prog 13 #[.agg #[.int .i64 t, .int .i64 l]] w fun e w' => e = .returned (.tuple #[x, .bool b]) ∧ Below w.heap.size w w' := by
  rw [← hx, ← hb]; exact numberOf_any t l w

end Go.Proofs.YtlbhfgckdbmldaaDoor
