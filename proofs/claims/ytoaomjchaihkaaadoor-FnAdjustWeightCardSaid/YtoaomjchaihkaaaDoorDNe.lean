/-
  What the draw of the laws on heights gives: a net of at most eight runs and a height for each node, by new memory alone.
-/
import Derived.Test.YtoaomjchaihkaaaDoorDNd
import Derived.Test.YtoaomjchaihkaaaDoorZp
import Derived.Test.YtoaomjchaihkaaaDoorTrz
namespace Go.Proofs.YtoaomjchaihkaaaDoor
open Go.RowKit
set_option linter.unusedVariables false

theorem three_at (m : Int) (h0 : 0 ≤ m) (h1 : m < 3) (a b c : Int) : ∃ z : Int, (#[Value.int .i64 a, Value.int .i64 b, Value.int .i64 c] : Array Value)[m.toNat]? = some (.int .i64 z) := by
  have : m = 0 ∨ m = 1 ∨ m = 2 := by omega
  rcases this with rfl | rfl | rfl
  · exact ⟨a, rfl⟩
  · exact ⟨b, rfl⟩
  · exact ⟨c, rfl⟩
/-- what the draw gives -/
def FitsOf (w : World) (N m : Nat) (rs : List Rn) (hs : List Int) (p q : Option Addr) (w' : World) : Prop := (rs.length = m ∧ hs.length = N ∧ (2 ≤ N ∧ N ≤ 6) ∧ m ≤ 8) ∧ Runs w' p rs ∧ Ints w' q hs ∧ Below w.heap.size w w'

end Go.Proofs.YtoaomjchaihkaaaDoor
