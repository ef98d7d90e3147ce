/-
  What a law that takes a list of bytes is told of it, and what its last step asks: the list opened, and shown to read as it did.
-/
import Derived.Test.YtgncjpakclbegaaLaw
import Derived.Test.YtgncjpakclbegaaFc
import Derived.Test.YtgncjpakclbegaaZo
import Derived.ShutString
import Derived.ChangeOld
namespace Go.Proofs.Ytgncjpakclbegaa
open Go.ChangeShapes Go.WideShapes Go.ChangeAt Go.RowKit
set_option linter.unusedVariables false

theorem laidOut : laidOutB Try.prog = true := by kernel_rfl

def IsRow (k : IntKind) (w : World) (a : Option Addr) (len cap : Nat) (zs : List Int) : Prop :=
  (a = none ∧ len = 0 ∧ cap = 0 ∧ zs = []) ∨
  ∃ x, a = some x ∧ len ≤ cap ∧ cap ≤ maxLen ∧ zs.length = cap ∧ (∀ i, i < zs.length → w.cell? (x.add i) = some (.int k (zs.getD i 0))) ∧ ∀ n ∈ zs, (Lit.int k n).wf = true

theorem code_of_row {w : World} {a : Option Addr} {len cap : Nat} {zs : List Int} (h : IsRow .u8 w a len cap zs) (hl : len ≤ 1048576) : Code' w (.slice a len cap) := by
  rcases h with ⟨rfl, rfl, rfl, rfl⟩ | ⟨x, rfl, h1, h2, h3, h4, h5⟩
  · exact .inl ⟨_, _, rfl⟩
  · by_cases h0 : len = 0
    · subst h0; exact .inl ⟨_, _, rfl⟩
    · obtain ⟨D, off, rfl, hc⟩ := ints_at h4 (by omega)
      refine .inr ⟨D, off, len, cap, fun j => zs.getD j 0, rfl, by omega, h1, hl, ?_, fun j hj => ?_⟩
      · have := hc 0 (by omega)
        exact World.block_lt_of_cell? w _ this
      · refine ⟨hc j (by omega), ?_⟩
        have hm : zs.getD j 0 ∈ zs := by
          have hj' : j < zs.length := by omega
          have : zs.getD j 0 = zs[j] := by simp [List.getD, List.getElem?_eq_getElem hj']
          rw [this]
          exact List.getElem_mem _
        exact bounds_u8 (h5 _ hm)
end Go.Proofs.Ytgncjpakclbegaa
