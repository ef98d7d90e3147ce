/-
  The reference model: how a parcel is split, and which share the first part has.
-/
import Derived.Test.YtgncjpakclbegaaYsp
import Derived.Test.YtgncjpakclbegaaPkp
import Derived.Test.YtgncjpakclbegaaYdr
import Derived.Test.YtgncjpakclbegaaQz
namespace Go.Proofs.Ytgncjpakclbegaa
open Go.RowKit Poly
set_option linter.unusedVariables false

section
variable {p : Option Addr} {c : Nat} {L : List P2} {w : World}
/-- the list's second way round is refused -/
theorem in_of {x lo hi : Int} {b : Bool} (w : World) (h : decide (lo ≤ x ∧ x ≤ hi) = b) : Calls Try.prog 100 #[.int .i64 x, .int .i64 lo, .int .i64 hi] w fun e w' => e = .returned (.bool b) ∧ w = w' := in_is x lo hi b w h
theorem splOk_nat {L : List P2} {i j : Int} (h : splOk L i j = true) : ∃ I' J' : Nat, i = I' ∧ j = J' ∧ I' < J' ∧ J' < L.length ∧ parV L = true ∧ parV (splA L I' J') = true ∧ parV (splB L I' J') = true := by
  unfold splOk at h
  rw [Bool.and_eq_true, Bool.and_eq_true] at h
  obtain ⟨⟨hv, hij⟩, hs⟩ := h
  unfold inJ at hij
  rw [decide_eq_true_eq] at hij
  unfold splV at hs
  rw [Bool.and_eq_true] at hs
  exact ⟨i.toNat, j.toNat, by omega, by omega, by omega, by omega, hv, hs.1, hs.2⟩
theorem sArea_n {n : Nat} {a : Int} (h : Ints w p (fl L)) (hok : okP L = true) (hn : L.length = n) (ha : areaL L = a) :
    Calls Try.prog 72 #[.slice p n c] w fun e w' => e = .returned (.int .i64 a) ∧ Below w.heap.size w w' := by
  subst hn; subst ha; exact sArea h hok
end
end Go.Proofs.Ytgncjpakclbegaa
