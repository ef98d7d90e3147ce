import Derived.Test.YtlbhfgckdbmldaaQd
namespace Go.Proofs.Ytlbhfgckdbmldaa
open Go.RowKit

theorem below_chain {B : Nat} {w W w' : World} (h1 : Below B w W) (h2 : Below W.heap.size W w') (hs : B ≤ W.heap.size) : Below B w w' := h1.trans (h2.mono hs)

theorem toquo_any (a b : Int) (w : World) :
    Calls Try.prog 28 #[.agg #[.int .i64 a, .int .i64 b]] w fun e w' => e = .returned (.agg #[.int .i64 a, .int .i64 b]) ∧ Below w.heap.size w w' := by
  go_enter Try.func28, Try.ntmps28
  go_wp2
  exact bodyPost_ret (v := .agg #[.int .i64 a, .int .i64 b]) (by simp [results, Try.results28, go_sem]) rfl ⟨rfl, (by repeat (first | assumption | exact Below.refl _ _ | (refine below_chain ?_ (by assumption) (by first | omega | (simp <;> omega) | simp)) | (refine Below.alloc ?_ (by first | omega | (simp <;> omega) | simp) _) | (apply below_drewN) | (apply below_drew) | (refine Below.setCell ?_ (by first | omega | (simp <;> omega) | simp) _)))⟩
end Go.Proofs.Ytlbhfgckdbmldaa
