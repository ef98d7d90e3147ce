/-
  MatTimes of both, told by whether the product is taken; products of turned matrices, of lists.
-/
import Derived.Test.YtddmbjobibljaaaZe
import Derived.Test.YtddmbjobibljaaaZb
namespace Go.Proofs.Ytddmbjobibljaaa
open Go.RowKit
set_option linter.unusedVariables false

/-- the product is taken -/
def tmsOk (A B : List (List Int)) : Prop := matOk A = true ∧ matOk B = true ∧ A.length = B.length ∧ matOk (mkL A.length (mul A.length (ent A) (ent B))) = true
/-- the product of the turned ones is the product turned -/
theorem turn_times {k : Nat} {A B : List (List Int)} : mkL k (mul k (ent (mkL k (trn (ent B)))) (ent (mkL k (trn (ent A))))) = mkL k (trn (ent (mkL k (mul k (ent A) (ent B))))) := by
  refine mkL_congr (fun i j hi hj => ?_)
  have h1 := congrFun (congrFun (mul_trn k (ent A) (ent B)) i) j
  show smn k (fun t => ent (mkL k (trn (ent B))) i t * ent (mkL k (trn (ent A))) t j) = ent (mkL k (mul k (ent A) (ent B))) j i
  rw [ent_mkL hj hi]
  have h2 : mul k (ent A) (ent B) j i = smn k (fun t => trn (ent B) i t * trn (ent A) t j) := h1
  rw [h2]
  exact sm_congr (fun t ht => by rw [ent_mkL hi ht, ent_mkL ht hj])
theorem num_apL {k i : Nat} {L : List (List Int)} {xs : List Int} (hi : i < k) : num (apL k L xs) i = smn k (fun j => ent L i j * num xs j) := by
  unfold apL
  exact num_at (by rw [List.getElem?_map, List.getElem?_range hi]; rfl)
/-- a product of matrices laid on a list -/
theorem apL_mul {k : Nat} {A B : List (List Int)} {xs : List Int} : apL k A (apL k B xs) = apL k (mkL k (mul k (ent A) (ent B))) xs := by
  unfold apL
  refine List.map_congr_left (fun i hi => ?_)
  have hi' := List.mem_range.1 hi
  have h1 : smn k (fun j => ent A i j * num ((List.range k).map (fun i => smn k (fun j => ent B i j * num xs j))) j) = smn k (fun j => smn k (fun t => ent A i j * ent B j t * num xs t)) := sm_congr (fun j hj => by
    have := num_apL (L := B) (xs := xs) hj
    unfold apL at this
    rw [this, ← sm_mul]
    exact sm_congr (fun t _ => by rw [Int.mul_assoc]))
  rw [h1, sm_swap]
  exact sm_congr (fun t ht => by
    rw [ent_mkL hi' ht]
    show smn k (fun j => ent A i j * ent B j t * num xs t) = smn k (fun j => ent A i j * ent B j t) * num xs t
    rw [Int.mul_comm, ← sm_mul]
    exact sm_congr (fun j _ => by rw [Int.mul_comm]))
end Go.Proofs.Ytddmbjobibljaaa
