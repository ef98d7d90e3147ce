/-
  Lists of rows of which a row is another. No function of the program is named.
-/
import Derived.Test.YthpfhbogpnhgmaaDl
import Derived.Test.YthpfhbogpnhgmaaDu
namespace Go.Proofs.Ythpfhbogpnhgmaa
set_option linter.unusedVariables false

theorem ent_set {L : List (List Int)} {i : Nat} {r : List Int} (hi : i < L.length) (n j : Nat) : ent (L.set i r) n j = if n = i then num r j else ent L n j := by
  unfold ent
  by_cases e : n = i
  · subst e
    rw [if_pos rfl, rowL_at (r := r) (by rw [List.getElem?_set, if_pos rfl, if_pos hi])]
  · rw [if_neg e]
    congr 1
    unfold rowL
    first
      | rw [List.getElem?_set, if_neg (Ne.symm e)]
      | simp [List.getD, List.getElem?_set, Ne.symm e]
theorem matOk_set {L : List (List Int)} {i : Nat} {r : List Int} (h : matOk L = true) (hr : r ∈ L) : matOk (L.set i r) = true := by
  obtain ⟨h1, h2, h3⟩ := matOk_true.1 h
  refine matOk_true.2 ⟨by rw [List.length_set]; exact h1, by rw [List.length_set]; exact h2, fun x hx => ?_⟩
  rw [List.length_set]
  rcases List.mem_or_eq_of_mem_set hx with hx | rfl
  · exact h3 x hx
  · exact h3 _ hr
theorem matOk_set' {L : List (List Int)} {i : Nat} {r : List Int} (h : matOk L = true) (hr : r.length = L.length) (hx : ∀ x ∈ r, -1000 ≤ x ∧ x ≤ 1000) : matOk (L.set i r) = true := by
  obtain ⟨h1, h2, h3⟩ := matOk_true.1 h
  refine matOk_true.2 ⟨by rw [List.length_set]; exact h1, by rw [List.length_set]; exact h2, fun y hy => ?_⟩
  rw [List.length_set]
  rcases List.mem_or_eq_of_mem_set hy with hy | rfl
  · exact h3 y hy
  · exact ⟨hr, hx⟩
theorem det_swapL {L : List (List Int)} {r0 r1 : List Int} {k : Nat} (hk : L.length = k) (h2 : 1 < k) (h0 : L[0]? = some r0) (h1 : L[1]? = some r1) : det k (ent ((L.set 0 r1).set 1 r0)) = -det k (ent L) := by
  have e0 : ∀ j, ent L 0 j = num r0 j := fun j => by unfold ent; rw [rowL_at h0]
  have e1 : ∀ j, ent L 1 j = num r1 j := fun j => by unfold ent; rw [rowL_at h1]
  refine det_rows_swap (p := 0) (q := 1) _ _ (by omega) h2 (by omega) (fun i j hi hj => ?_)
  rw [ent_set (by rw [List.length_set]; omega), ent_set (by omega)]
  by_cases a : i = 1
  · subst a; simp [e0]
  · by_cases b : i = 0
    · subst b; simp [e1]
    · simp [a, b]
theorem det_sameL {L : List (List Int)} {r : List Int} {k : Nat} (hk : L.length = k) (h2 : 1 < k) : det k (ent ((L.set 1 r).set 0 r)) = 0 := by
  have a0 : ∀ j, ent ((L.set 1 r).set 0 r) 0 j = num r j := fun j => by rw [ent_set (by rw [List.length_set]; omega), if_pos rfl]
  have a1 : ∀ j, ent ((L.set 1 r).set 0 r) 1 j = num r j := fun j => by rw [ent_set (by rw [List.length_set]; omega), if_neg (by omega), ent_set (by omega), if_pos rfl]
  exact det_rows (p := 0) (q := 1) _ (by omega) h2 (by omega) (fun j hj => by rw [a0, a1])
theorem det_1 (a : Mx) : det 1 a = a 0 0 := by simp [det, smn, sgj]
end Go.Proofs.Ythpfhbogpnhgmaa
