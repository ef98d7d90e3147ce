/-
  The reference model's loops: where a number begins and ends, whether a list has a number, what errors add up to.
  The reference model's LoopIs, LoopError and LoopBack, for any list.
  The reference model's search for the way along a tree.
-/
import Derived.Test.YtoaomjchaihkaaaGreatDoorLz
import Derived.Test.YtoaomjchaihkaaaGreatDoorZf
import Derived.Test.YtoaomjchaihkaaaGreatDoorZg
namespace Go.Proofs.YtoaomjchaihkaaaGreatDoor
open Go.RowKit
set_option linter.unusedVariables false

theorem nSize (z v : Int) (w : World) (h0 : -1000 ≤ z) (h1 : z ≤ 1000) (hv : (z.natAbs : Int) = v) :
    Calls Tryz.prog 102 #[.int .i64 z] w fun e w' => e = .returned (.int .i64 v) ∧ w = w' := by
  by_cases h : 0 ≤ z
  all_goals
    go_enter Tryz.func102, Tryz.ntmps102
    go_wp2
    go_ret
    exact ⟨ret_int (by omega), rfl⟩
theorem lsum_low {rs : List Rn} : ∀ {L : List Int}, (∀ z ∈ L, -100000 ≤ er rs z ∧ er rs z ≤ 100000) → -(100000 * (L.length : Int)) ≤ lsum rs L ∧ lsum rs L ≤ 100000 * (L.length : Int)
  | [], _ => by rw [lsum_nil]; simp
  | z :: L, h => by
    have a := h z (by simp)
    have b := lsum_low (L := L) (fun y hy => h y (by simp [hy]))
    rw [lsum_cons, List.length_cons]
    omega
theorem lsum_one {rs : List Rn} {z : Int} : lsum rs [z] = er rs z := by rw [lsum_cons, lsum_nil]; omega
end Go.Proofs.YtoaomjchaihkaaaGreatDoor
namespace Go.Proofs.YtoaomjchaihkaaaGreatDoor
open Go.RowKit
set_option linter.unusedVariables false

theorem sValid_m {n : Int} {p : Option Addr} {c m : Nat} {rs : List Rn} {b : Bool} (w : World) (hm : rs.length = m) (h : Runs w p rs) (hl : m ≤ 4000000000000000000) (hb : nOk n rs = b) :
    Calls Tryz.prog 67 #[.int .i64 n, .slice p m c] w fun e w' => e = .returned (.bool b) ∧ Below w.heap.size w w' := by
  subst hm; exact sValid n p c rs b w h hl hb
theorem isL_sums {n : Int} {rs : List Rn} (hn : nOk n rs = true) : ∀ r ∈ rs, -100000 ≤ r.s ∧ r.s ≤ 100000 := fun r hr => by
  obtain ⟨i, hi⟩ := List.getElem?_of_mem hr
  obtain ⟨-, -, -, -, -, a, b, -, -⟩ := rOk_true ((nOk_true hn).2.2.2 i r hi)
  exact ⟨a, b⟩
theorem back_at {L : List Int} {t j : Nat} {z : Int} (h : L[t]? = some z) (hj : t + 1 + j = L.length) : (back L).take (j + 1) = (back L).take j ++ [-z] := by
  refine take_succ_of ?_
  have ht := (List.getElem?_eq_some_iff.1 h).1
  unfold back
  rw [List.getElem?_reverse (by simp; omega), List.getElem?_map, List.length_map, show L.length - 1 - j = t by omega, h]
  rfl
end Go.Proofs.YtoaomjchaihkaaaGreatDoor
namespace Go.Proofs.YtoaomjchaihkaaaGreatDoor
open Go.RowKit
set_option linter.unusedVariables false

section
variable {N : Nat} {rs : List Rn} {T P : List Int} {s a b z last : Int}
theorem way_ix (h : IsTree N rs T) (hb : ∃ L, Trail rs T a L b) {y : Int} {M : List Int} (e : wayT rs T a b = y :: M) : ix y ∈ T ∧ bg rs y = a ∧ ∀ y' M', M = y' :: M' → ix y' ≠ ix y := by
  have hw := wayT_is hb
  rw [e] at hw
  obtain ⟨q1, q2, q3, q4⟩ := trail_cons.1 hw
  exact ⟨q1, q2, fun y' M' e' => q4 y' (by rw [e']; simp)⟩
theorem way_self (h : IsTree N rs T) : wayT rs T a a = [] := wayT_of h (trail_nil.2 rfl)
/-- the ends of a run of a tree differ -/
theorem tree_ends (h : IsTree N rs T) (hz : ix z ∈ T) : bg rs z ≠ en rs z := fun e => by
  have := trail_closed h (L := [z]) (a := bg rs z) (by have := trail_one (rs := rs) hz; rwa [← e] at this)
  cases this
end
/-- what is answered: the way, if it does not begin with the run that led here -/
def WayAt (w : World) (W : List Int) (last : Int) (e : Ending) (w' : World) : Prop :=
  ((∃ y M, W = y :: M ∧ ix y = last) ∧ (∃ g, e = .returned (.tuple #[.slice (some ⟨g, 0, none⟩) 0 0, .bool false])) ∨
   (∀ y M, W = y :: M → ix y ≠ last) ∧ ∃ g cap l, e = .returned (.tuple #[.slice (some ⟨g, 0, none⟩) l cap, .bool true]) ∧ W.length = l ∧ w.heap.size ≤ g ∧ Own w' g 3 1 l cap W) ∧ Below w.heap.size w w'

end Go.Proofs.YtoaomjchaihkaaaGreatDoor
