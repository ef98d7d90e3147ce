/-
  The reference model's MatTurn and MatTimes.
  The reference model's MatTimes.
  The reference model's MatApply.
  The reference model's MatSolve.
  How the program reads matrices and columns, and sums products.
  The functions that the program makes matrices with: what each gives for both indexes.
-/
import Derived.Test.YtenllemaccacgabZc
import Derived.Test.YtenllemaccacgabZb
namespace Go.Proofs.Ytenllemaccacgab
open Go.RowKit
set_option linter.unusedVariables false

theorem gen_worldM {P : Program} {c : Code} {Q : Exit → Act → World → Prop} {a : Act} {W : World} (p : World → Prop) (h : p W) (k : ∀ W', p W' → c.wp P Q a W') : c.wp P Q a W := k W h
theorem rng_snoc {f : Nat → Int} {x : Nat} : (List.range x).map f ++ [f x] = (List.range (x + 1)).map f := by rw [List.range_succ, List.map_append]; rfl
theorem mkL_step {k j : Nat} {f : Mx} (h : j < k) : (mkL k f).take j ++ [(List.range k).map (fun i => f j i)] = (mkL k f).take (j + 1) := by rw [List.take_add_one, mkL_row h]; rfl
theorem one_cellA (w : World) (z : Int) (t : TypeId) : ∀ (j : Nat) (y : Int), [z][j]? = some y → (w.alloc (.cells #[.int .i64 z] t)).cell? ((⟨w.heap.size, 0, none⟩ : Addr).add j) = some (.int .i64 y) := by
  intro j y h
  have := cell_one_new w (.int .i64 z) t j (.int .i64 y) (by
    match j, h with
    | 0, h => simp at h; subst h; rfl)
  exact this
end Go.Proofs.Ytenllemaccacgab
namespace Go.Proofs.Ytenllemaccacgab
open Go.RowKit
set_option linter.unusedVariables false

/-- what two matrices that are valid give -/
def TimesAt (w : World) (k : Nat) (v : Bool) (f : Mx) (e : Ending) (w' : World) : Prop :=
  (v = true → ∃ g cap bs, e = .returned (.tuple #[.slice (some ⟨g, 0, none⟩) k cap, .bool true]) ∧ GridO w' 3 35 w.heap.size g cap bs (mkL k f)) ∧
  (v = false → ∃ g, e = .returned (.tuple #[.slice (some ⟨g, 0, none⟩) 0 0, .bool false])) ∧ Below w.heap.size w w'
theorem ent_at {L : List (List Int)} {i j : Nat} {r : List Int} {z : Int} (hr : L[i]? = some r) (hz : r[j]? = some z) : ent L i j = z := by unfold ent; rw [rowL_at hr, num_at hz]
end Go.Proofs.Ytenllemaccacgab
namespace Go.Proofs.Ytenllemaccacgab
open Go.RowKit
set_option linter.unusedVariables false

/-- a matrix, and a list that it can be applied to -/
def aplOk (L : List (List Int)) (xs : List Int) : Prop := matOk L = true ∧ xs.length = L.length ∧ ∀ x ∈ xs, -1000000 ≤ x ∧ x ≤ 1000000
noncomputable def apL (k : Nat) (L : List (List Int)) (xs : List Int) : List Int := (List.range k).map (fun i => smn k (fun j => ent L i j * num xs j))
theorem aterm_low {e : Int} {a : Mx} {k i : Nat} {xs : List Int} (hs : SmE k 1000 a) (hi : i < k) (he : 0 ≤ e) (hx : ∀ x ∈ xs, -e ≤ x ∧ x ≤ e) (hk : xs.length = k) : ∀ j, j < k → -(1000 * e) ≤ a i j * num xs j ∧ a i j * num xs j ≤ 1000 * e := fun j hj =>
  abs_mul (hs i j hi hj) (hx _ (num_mem (by omega)))
end Go.Proofs.Ytenllemaccacgab
namespace Go.Proofs.Ytenllemaccacgab
open Go.RowKit
set_option linter.unusedVariables false

/-- a column replaced -/
def putL (k : Nat) (L : List (List Int)) (c : Nat) (xs : List Int) : List (List Int) := mkL k (upc (ent L) c (num xs))
theorem row_put {k c i : Nat} {L : List (List Int)} {xs r : List Int} (hs : Sq k L) (hr : L[i]? = some r) (hc : c < k) : r.set c (num xs i) = (List.range k).map (fun j => upc (ent L) c (num xs) i j) := by
  have hrl := hs.2 r (List.mem_of_getElem? hr)
  refine list_num (by simp [hrl]) (fun j hj => ?_)
  rw [List.length_set, hrl] at hj
  rw [num_map hj]
  by_cases e : j = c
  · subst e
    rw [upd_at]
    exact num_at (by rw [List.getElem?_set, if_pos rfl, if_pos (by omega)])
  · rw [upd_ne e]
    unfold num
    rw [List.getElem?_set, if_neg (fun h => e h.symm)]
    show num r j = ent L i j
    unfold ent; rw [rowL_at hr]
/-- a matrix, and a list that its equations are solved for -/
def slvOk (L : List (List Int)) (xs : List Int) : Prop := matOk L = true ∧ xs.length = L.length ∧ det L.length (ent L) ≠ 0 ∧ ∀ x ∈ xs, -1000 ≤ x ∧ x ≤ 1000
noncomputable def slL (k : Nat) (L : List (List Int)) (xs : List Int) : List Int := (List.range k).map (fun j => det k (upc (ent L) j (num xs)))
theorem put_small {k c : Nat} {L : List (List Int)} {xs : List Int} (hs : SmE k 1000 (ent L)) (hn : xs.length = k) (hx : ∀ x ∈ xs, -1000 ≤ x ∧ x ≤ 1000) : SmE k 1000 (ent (putL k L c xs)) := fun i j hi hj => by
  show -1000 ≤ ent (mkL k _) i j ∧ ent (mkL k _) i j ≤ 1000
  rw [ent_mkL hi hj]
  by_cases e : j = c
  · subst e; rw [upd_at]; exact hx _ (num_mem (by omega))
  · rw [upd_ne e]; exact hs i j hi hj
end Go.Proofs.Ytenllemaccacgab
namespace Go.Proofs.Ytenllemaccacgab
open Go.RowKit
set_option linter.unusedVariables false

theorem ret_int' {x y : Int} (h : x = y) : Value.int IntKind.i64 x = Value.int IntKind.i64 y := by rw [h]
end Go.Proofs.Ytenllemaccacgab
namespace Go.Proofs.Ytenllemaccacgab
open Go.RowKit
set_option linter.unusedVariables false

theorem cCopied (b k c i j : Nat) (p : Option Addr) (L : List (List Int)) (w : World) (hc : w.cell? ⟨b, 0, none⟩ = some (.slice p k c)) (h : GRead w p L) (hs : Sq k L) (hi : i < k) (hj : j < k) :
    Calls Try.prog 45 #[.int .i64 i, .int .i64 j, .pointer (some ⟨b, 0, none⟩)] w fun e w' => e = .returned (.int .i64 (ent L i j)) ∧ w = w' := by
  obtain ⟨B, o, r, q, cq, rfl, hr, hB, e0, hcq, hI⟩ := h.at (i := i) (by rw [hs.1]; exact hi)
  have hrl := hs.2 r (List.mem_of_getElem? hr)
  rw [hrl] at e0
  obtain ⟨A, oA, z, rfl, hz, hA, e1⟩ := hI.at (i := j) (by rw [hrl]; exact hj)
  have hi' : (i : Int) < (k : Int) := by omega
  have hj' : (j : Int) < (k : Int) := by omega
  have HN : Hid (z = ent L i j) := Lib.hid (by unfold ent; rw [rowL_at hr, num_at hz])
  clear h hs hr hI hrl hz hcq
  go_enter Try.func45, Try.ntmps45
  go_wp2_with fail
  go_ret
  exact ⟨ret_int HN.out, rfl⟩
end Go.Proofs.Ytenllemaccacgab
