/-
  The reference model's NetWithout.
  The reference model's NetMerge.
-/
import Derived.Test.YtenllemaccacgabZj
import Derived.Test.YtenllemaccacgabZf
import Derived.Test.YtenllemaccacgabZa
import Derived.Test.YtenllemaccacgabZi
namespace Go.Proofs.Ytenllemaccacgab
open Go.RowKit
set_option linter.unusedVariables false

theorem flat_takeC {rs : List Rn} (k : Nat) {j : Nat} {z : Int} (h : (flat (rs.take k))[j]? = some z) : (flat rs)[j]? = some z := by
  have e : flat rs = flat (rs.take k) ++ flat (rs.drop k) := by rw [← flat_append, List.take_append_drop]
  rw [e, List.getElem?_append_left (List.getElem?_eq_some_iff.1 h).1]; exact h
theorem flat_dropC {rs : List Rn} {k : Nat} (hk : k ≤ rs.length) {j : Nat} {z : Int} (h : (flat (rs.drop k))[j]? = some z) : (flat rs)[k * 4 + j]? = some z := by
  have e : flat rs = flat (rs.take k) ++ flat (rs.drop k) := by rw [← flat_append, List.take_append_drop]
  have hl : (flat (rs.take k)).length = k * 4 := by rw [flat_len, List.length_take]; omega
  rw [e, List.getElem?_append_right (by omega), hl, Nat.add_sub_cancel_left]; exact h
theorem runs_cellsT {w : World} {B o : Nat} {rs : List Rn} (k : Nat) (h : Runs w (some ⟨B, o, none⟩) rs) : ∀ (j : Nat) (z : Int), (flat (rs.take k))[j]? = some z → w.cell? ((⟨B, o, none⟩ : Addr).add j) = some (.int .i64 z) :=
  fun j z hz => runs_cells h j z (flat_takeC k hz)
theorem runs_cellsD {w : World} {B o : Nat} {rs : List Rn} {k : Nat} (hk : k ≤ rs.length) (h : Runs w (some ⟨B, o, none⟩) rs) : ∀ (j : Nat) (z : Int), (flat (rs.drop k))[j]? = some z → w.cell? ((⟨B, o + k * 4, none⟩ : Addr).add j) = some (.int .i64 z) := fun j z hz => by
  have := runs_cells h _ z (flat_dropC hk hz)
  rw [add_flat] at this
  rw [add_flat, Nat.add_assoc]; exact this
end Go.Proofs.Ytenllemaccacgab
namespace Go.Proofs.Ytenllemaccacgab
open Go.RowKit
set_option linter.unusedVariables false

theorem mrg_take {rs : List Rn} {j : Nat} {r : Rn} (h : rs[j]? = some r) (lo hi : Int) : mrg lo hi (rs.take (j + 1)) = mrg lo hi (rs.take j) ++ (if (mv lo hi r).f = (mv lo hi r).t then [] else [mv lo hi r]) := by
  rw [List.take_add_one, h]
  show mrg lo hi (rs.take j ++ [r]) = _
  rw [mrg_append]
  congr 1
  unfold mrg
  by_cases e : (mv lo hi r).f = (mv lo hi r).t
  · rw [if_pos e]; simp [e]
  · rw [if_neg e]; simp [e]
theorem cells4_new (w : World) (a b c d : Int) (T : TypeId) : ∀ (j : Nat) (z : Int), [a, b, c, d][j]? = some z → (w.alloc (.cells #[.int .i64 a, .int .i64 b, .int .i64 c, .int .i64 d] T)).cell? ((⟨w.heap.size, 0, none⟩ : Addr).add j) = some (.int .i64 z) := by
  intro j z h
  rw [add_flat]
  match j, h with
  | 0, h => simp at h; subst h; simp [go_sem]
  | 1, h => simp at h; subst h; simp [go_sem]
  | 2, h => simp at h; subst h; simp [go_sem]
  | 3, h => simp at h; subst h; simp [go_sem]
  | j + 4, h => simp at h
end Go.Proofs.Ytenllemaccacgab
