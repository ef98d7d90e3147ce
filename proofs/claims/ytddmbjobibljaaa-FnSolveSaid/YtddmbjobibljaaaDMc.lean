/-
  What the draws of the laws on matrices give: a matrix; two.
-/
import Derived.Test.YtddmbjobibljaaaDMb
namespace Go.Proofs.Ytddmbjobibljaaa
open Go.RowKit
set_option linter.unusedVariables false

theorem mat_int (K R : Nat) (z : Int) (n : Nat) (w : World) (h : Rdr K w R) (hz : z = (n : Int)) (hK : K ≤ 100) (hn1 : 1 ≤ n) (hn5 : n ≤ 5) :
    Calls Try.prog 44 #[.pointer (some ⟨R, 0, none⟩), .int .i64 z] w fun e w' => ∃ (L : List (List Int)) (bs : List (Nat × Nat)) (g k cap : Nat), e = .returned (.slice (some ⟨g, 0, none⟩) k cap) ∧ GridD n k L ∧ GridIn w w' R g cap bs L ∧ Rdr (K + 40) w' R := by subst hz; exact mat_is K R n w h hK hn1 hn5
theorem GridD.up {n m k : Nat} {L : List (List Int)} (h : GridD n k L) (hm : n ≤ m) : GridD m k L := ⟨h.1, by have := h.2.1; omega, fun r hr => by have := h.2.2 r hr; omega⟩
theorem below_gbM {B R : Nat} {a w w' : World} (h : Below B a w) (hg : w.grownBy w' (some R)) (hR : B ≤ R) (hs : B ≤ w.heap.size) : Below B a w' := below_gr h hg hR hs
/-- a list of rows of a call's own -/
def MatD (w : World) (n g k cap : Nat) (bs : List (Nat × Nat)) (L : List (List Int)) (w' : World) : Prop := GridD n k L ∧ GridO w' 3 23 w.heap.size g cap bs L ∧ Below w.heap.size w w'
end Go.Proofs.Ytddmbjobibljaaa
