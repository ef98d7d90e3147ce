/-
  The program's NetMerge.
  The program's matrices of nets, by contract: iMatrix_yes/_no, iTrees_yes/_no (XKj), iSource_yes/_no (XKk), iWithout_yes/_no (XKn), iMerge_yes/_no (XKo).
-/
import Derived.Test.YtoaomjchaihkaaaDoorZm
import Derived.Test.YtoaomjchaihkaaaDoorZk
namespace Go.Proofs.YtoaomjchaihkaaaDoor
open Go.RowKit
set_option linter.unusedVariables false

theorem NewV.alloc {w wr : World} {L : List Rn} {v : Value} (h : NewV w L v wr) (hs : w.heap.size ≤ wr.heap.size) (o : Obj) : NewV w L v (wr.alloc o) := by
  rcases h with ⟨h1, h2, h3⟩ | ⟨h1, g, cap, h2, hg, ho, h3⟩
  · exact .inl ⟨h1, h2, h3.alloc hs o⟩
  · exact .inr ⟨h1, g, cap, h2, hg, ho.alloc o, h3.alloc hs o⟩
theorem NewV.len12 {lo hi : Int} {rs : List Rn} {j : Nat} (h : rs.length ≤ 12) : (mrg lo hi (rs.take j)).length ≤ 12 := by
  refine Nat.le_trans (List.length_filter_le _ _) ?_
  rw [List.length_map, List.length_take]; omega
end Go.Proofs.YtoaomjchaihkaaaDoor
namespace Go.Proofs.YtoaomjchaihkaaaDoor
open Go.RowKit
set_option linter.unusedVariables false
theorem Runs.runs {w : World} {p : Option Addr} {rs : List Rn} (h : Runs w p rs) : Runs w p rs := h
theorem NewP.q {w w' : World} {q : Nat} {rs : List Rn} {v : Value} (h : NewP w q rs v w') : ∃ p cap, v = .slice p q cap ∧ Runs w' p rs ∧ Below w.heap.size w w' := h
end Go.Proofs.YtoaomjchaihkaaaDoor
