/-
  SpreadWorst by the reference model and by the program.
-/
import Derived.Test.YtenllemaccacgaaGreatDoorRf
namespace Go.Proofs.YtenllemaccacgaaGreatDoor
open Go.RowKit
set_option linter.unusedVariables false

/-- the node with the greatest spread from the node 0 -/
noncomputable def wst (N : Nat) (rs : List Rn) (k : Nat) : Nat := bst (fun i => spN N rs 0 i) k
theorem wst_step {N k : Nat} {rs : List Rn} : wst N rs (k + 1) = if spN N rs 0 (wst N rs k) < spN N rs 0 k then k else wst N rs k := rfl
noncomputable def wq (N : Nat) (rs : List Rn) (i : Nat) : Int × Int := (sprT N rs 0 i, sprL N rs 0 i)
theorem wst_one {N : Nat} {rs : List Rn} : wst N rs 1 = 0 := by unfold wst; simp [bst]
theorem gix_wst {N : Nat} {rs : List Rn} (hw : nWhole (N : Int) rs = true) : ∀ k, k ≤ N → gix ((List.range N).map (wq N rs)) k = wst N rs k
  | 0, _ => rfl
  | k + 1, h => by
    have ih := gix_wst hw k (by omega)
    have hb : wst N rs k < N := by
      rcases Nat.eq_zero_or_pos k with h0 | h0
      · subst h0; show 0 < N; omega
      · have := bst_lt (f := fun i => spN N rs 0 i) h0
        unfold wst; omega
    have hx : ((List.range N).map (wq N rs))[k]? = some (wq N rs k) := by rw [List.getElem?_map, List.getElem?_range (by omega)]; rfl
    have hy : ((List.range N).map (wq N rs))[gix ((List.range N).map (wq N rs)) k]? = some (wq N rs (wst N rs k)) := by rw [ih, List.getElem?_map, List.getElem?_range hb]; rfl
    rw [gix_step hx hy, ih, wst_step]
    have e := Quo.sg_TL (a := spN N rs 0 k) (a' := spN N rs 0 (wst N rs k)) (trN_pos1 hw)
    have e2 : gtq (wq N rs k) (wq N rs (wst N rs k)) = Quo.T (spN N rs 0 k) (trN N rs) * Quo.L (spN N rs 0 (wst N rs k)) (trN N rs) - Quo.T (spN N rs 0 (wst N rs k)) (trN N rs) * Quo.L (spN N rs 0 k) (trN N rs) := rfl
    have e3 : 0 < gtq (wq N rs k) (wq N rs (wst N rs k)) ↔ spN N rs 0 (wst N rs k) < spN N rs 0 k := by
      rw [e2, ← sg_pos, e, sg_pos]; omega
    by_cases hc : spN N rs 0 (wst N rs k) < spN N rs 0 k
    · rw [if_pos (e3.2 hc), if_pos hc]
    · rw [if_neg (fun h => hc (e3.1 h)), if_neg hc]
end Go.Proofs.YtenllemaccacgaaGreatDoor
