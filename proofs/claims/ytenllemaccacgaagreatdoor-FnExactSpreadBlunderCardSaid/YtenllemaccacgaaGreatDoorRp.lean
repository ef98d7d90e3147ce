/-
  The suspected run by the program: the looped runs and their quotients in two lists, the first greatest.
-/
import Derived.Test.YtenllemaccacgaaGreatDoorRk
namespace Go.Proofs.YtenllemaccacgaaGreatDoor
open Go.RowKit
set_option linter.unusedVariables false

/-- the looped runs ahead of the k-th, and their quotients -/
def lpI (x : Nat → Int) : Nat → List Int
  | 0 => []
  | k + 1 => if x k = 0 then lpI x k else lpI x k ++ [(k : Int)]
def lpQ (x : Nat → Int) (Q : Nat → Int × Int) : Nat → List (Int × Int)
  | 0 => []
  | k + 1 => if x k = 0 then lpQ x Q k else lpQ x Q k ++ [Q k]
theorem lp_len {x : Nat → Int} {Q : Nat → Int × Int} : ∀ k, (lpI x k).length = (lpQ x Q k).length
  | 0 => rfl
  | k + 1 => by
    unfold lpI lpQ
    split
    · exact lp_len k
    · rw [List.length_append, List.length_append, lp_len k]; rfl
theorem gix_app {q : List (Int × Int)} {z : Int × Int} : ∀ {j : Nat}, j ≤ q.length → gix (q ++ [z]) j = gix q j
  | 0, _ => rfl
  | j + 1, h => by
    have ih := gix_app (q := q) (z := z) (j := j) (by omega)
    have hg := gix_in (q := q) (j := j) (by omega)
    show (if 0 < gtq (((q ++ [z])[j]?).getD (0, 1)) (((q ++ [z])[gix (q ++ [z]) j]?).getD (0, 1)) then j else gix (q ++ [z]) j) = (if 0 < gtq ((q[j]?).getD (0, 1)) ((q[gix q j]?).getD (0, 1)) then j else gix q j)
    rw [ih, List.getElem?_append_left (by omega), List.getElem?_append_left hg]
theorem gix_snoc {q : List (Int × Int)} {z t : Int × Int} (ht : q[gix q q.length]? = some t) : gix (q ++ [z]) (q.length + 1) = if 0 < gtq z t then q.length else gix q q.length := by
  have hg := (List.getElem?_eq_some_iff.1 ht).1
  show (if 0 < gtq (((q ++ [z])[q.length]?).getD (0, 1)) (((q ++ [z])[gix (q ++ [z]) q.length]?).getD (0, 1)) then q.length else gix (q ++ [z]) q.length) = _
  rw [gix_app (Nat.le_refl _), List.getElem?_append_left hg, ht]
  simp
theorem bst_gix {x : Nat → Int} {Q : Nat → Int × Int} : ∀ m : Nat, (bstQ x Q m = none → lpI x m = [] ∧ lpQ x Q m = []) ∧ (∀ i t, bstQ x Q m = some (i, t) → (lpI x m)[gix (lpQ x Q m) (lpQ x Q m).length]? = some (i : Int) ∧ (lpQ x Q m)[gix (lpQ x Q m) (lpQ x Q m).length]? = some t)
  | 0 => ⟨fun _ => ⟨rfl, rfl⟩, fun i t h => by cases h⟩
  | m + 1 => by
    have ih := bst_gix (x := x) (Q := Q) m
    have hl := lp_len (x := x) (Q := Q) m
    unfold bstQ lpI lpQ
    by_cases hx : x m = 0
    · simp only [if_pos hx]; exact ih
    · simp only [if_neg hx]
      cases e : bstQ x Q m with
      | none =>
        obtain ⟨e1, e2⟩ := ih.1 e
        rw [e1, e2]
        refine ⟨fun h => by simp at h, fun i t h => ?_⟩
        simp at h
        obtain ⟨rfl, rfl⟩ := h
        have : gix ([] ++ [Q m]) ([] ++ [Q m] : List (Int × Int)).length = 0 := by have := gix_lt (q := [] ++ [Q m]) (n := 1) (by omega); simpa using this
        rw [this]
        exact ⟨rfl, rfl⟩
      | some v =>
        obtain ⟨i', t'⟩ := v
        obtain ⟨h1, h2⟩ := ih.2 i' t' e
        have hg := (List.getElem?_eq_some_iff.1 h2).1
        refine ⟨fun h => absurd h (by dsimp only; split <;> simp), fun i t h => ?_⟩
        simp only at h
        rw [List.length_append, show ([Q m] : List (Int × Int)).length = 1 from rfl, gix_snoc h2]
        split at h
        · cases h
          rename_i hp
          rw [if_pos hp]
          refine ⟨?_, ?_⟩
          · rw [← hl, List.getElem?_append_right (Nat.le_refl _)]; simp
          · rw [List.getElem?_append_right (Nat.le_refl _)]; simp
        · cases h
          rename_i hp
          rw [if_neg hp]
          exact ⟨by rw [List.getElem?_append_left (by omega)]; exact h1, by rw [List.getElem?_append_left hg]; exact h2⟩
/-- two lists of their own, as long as one another -/
def Pair (lo : Nat) (W : World) (LA : List Int) (LB : List (Int × Int)) (vA vB : Value) : Prop :=
  (LA = [] ∧ LB = [] ∧ vA = .slice none 0 0 ∧ vB = .slice none 0 0) ∨ ∃ n gA cA gB cB : Nat, 0 < n ∧ vA = .slice (some ⟨gA, 0, none⟩) n cA ∧ vB = .slice (some ⟨gB, 0, none⟩) n cB ∧ lo ≤ gA ∧ lo ≤ gB ∧ gA ≠ gB ∧ Own W gA 3 1 n cA LA ∧ Own W gB 27 2 n cB (flq LB)
theorem Pair.below {lo : Nat} {W W' : World} {LA : List Int} {LB : List (Int × Int)} {vA vB : Value} (h : Pair lo W LA LB vA vB) (hb : Below W.heap.size W W') : Pair lo W' LA LB vA vB := by
  rcases h with h | ⟨n, gA, cA, gB, cB, h0, h1, h2, h3, h4, h5, h6, h7⟩
  · exact .inl h
  · exact .inr ⟨n, gA, cA, gB, cB, h0, h1, h2, h3, h4, h5, h6.below hb, h7.below hb⟩
end Go.Proofs.YtenllemaccacgaaGreatDoor
