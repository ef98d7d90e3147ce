/-
  What the program's ParcelSplit and ParcelShare answer.
-/
import Derived.Test.YtgncjpakclbegaaPkz
import Derived.Test.YtgncjpakclbegaaQz
namespace Go.Proofs.Ytgncjpakclbegaa
open Go.RowKit Poly
set_option linter.unusedVariables false

/-- a new list of points -/
def NewP (V : World) (T : List P2) (n g d : Nat) (W : World) : Prop := V.heap.size ≤ g ∧ Own W g 31 2 n d (fl T)
section
variable {p q : Option Addr} {c d : Nat} {L : List P2} {w : World}
theorem iPoints_n {n₀ n : Nat} {A : Nat → Nat} {T : List P2} {w : World} (hR : RingB n₀ A T w) (hn : n₀ ≤ w.heap.size) (hok : okP T = true) (hT : T.length = n) :
    Calls Try.prog 67 #[.agg #[.pointer (some ⟨A 0, 0, none⟩)]] w fun e w' => ∃ g cap : Nat, e = .returned (.slice (some ⟨g, 0, none⟩) n cap) ∧ w.heap.size ≤ g ∧ Own w' g 31 2 n cap (fl T) ∧ Below w.heap.size w w' := by
  subst hT; exact iPoints hR hn hok
theorem iArea_n {n₀ : Nat} {A : Nat → Nat} {T : List P2} {w : World} {a : Int} (hR : RingB n₀ A T w) (hn : n₀ ≤ w.heap.size) (hok : okP T = true) (ha : areaL T = a) :
    Calls Try.prog 68 #[.agg #[.pointer (some ⟨A 0, 0, none⟩)]] w fun e w' => e = .returned (.int .i64 a) ∧ Below w.heap.size w w' := by
  subst ha; exact iArea hR hn hok
end
end Go.Proofs.Ytgncjpakclbegaa
