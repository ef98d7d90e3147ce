/-
  The reference model's NetWithout.
  The reference model's NetMerge.
-/
import Derived.Test.YtoaomjchaihkaaaGreatDoorZj
import Derived.Test.YtoaomjchaihkaaaGreatDoorZf
import Derived.Test.YtoaomjchaihkaaaGreatDoorZa
import Derived.Test.YtoaomjchaihkaaaGreatDoorZi
namespace Go.Proofs.YtoaomjchaihkaaaGreatDoor
open Go.RowKit
set_option linter.unusedVariables false

theorem flat_takeC {rs : List Rn} (k : Nat) {j : Nat} {z : Int} (h : (flat (rs.take k))[j]? = some z) : (flat rs)[j]? = some z := by
  have e : flat rs = flat (rs.take k) ++ flat (rs.drop k) := by rw [← flat_append, List.take_append_drop]
  rw [e, List.getElem?_append_left (List.getElem?_eq_some_iff.1 h).1]; exact h
theorem flat_dropC {rs : List Rn} {k : Nat} (hk : k ≤ rs.length) {j : Nat} {z : Int} (h : (flat (rs.drop k))[j]? = some z) : (flat rs)[k * 4 + j]? = some z := by
  have e : flat rs = flat (rs.take k) ++ flat (rs.drop k) := by rw [← flat_append, List.take_append_drop]
  have hl : (flat (rs.take k)).length = k * 4 := by rw [flat_len, List.length_take]; omega
  rw [e, List.getElem?_append_right (by omega), hl, Nat.add_sub_cancel_left]; exact h
theorem runs_cellsT {w : World} {B o : Nat} {rs : List Rn} (k : Nat) (h : Runs w (some ⟨B, o, none⟩) rs) : ∀ (j : Nat) (z : Int), (flat (rs.take k))[j]? = some z → w.cell? ((⟨B, o, none⟩ : Addr).add j) = some (.int .i64 z) :=
  fun j z hz => runs_cells h j z (flat_takeC k hz)
theorem runs_cellsD {w : World} {B o : Nat} {rs : List Rn} {k : Nat} (hk : k ≤ rs.length) (h : Runs w (some ⟨B, o, none⟩) rs) : ∀ (j : Nat) (z : Int), (flat (rs.drop k))[j]? = some z → w.cell? ((⟨B, o + k * 4, none⟩ : Addr).add j) = some (.int .i64 z) := fun j z hz => by
  have := runs_cells h _ z (flat_dropC hk hz)
  rw [add_flat] at this
  rw [add_flat, Nat.add_assoc]; exact this
theorem sSource_no (n : Int) (p : Option Addr) (c m : Nat) (rs : List Rn) (w : World) (h : Runs w p rs) (hm : rs.length = m) (hl : m ≤ 4000000000000000000) (hn : nOk n rs = false) :
    Calls Tryz.prog 79 #[.int .i64 n, .slice p m c] w fun e w' => (∃ q, e = .returned (.tuple #[.slice q 0 0, .bool false])) ∧ Below w.heap.size w w' := by
  have c1 := fun w h => Lib.hid (sValid n p c rs false w h (by omega) hn)
  rw [hm] at c1
  have H := Lib.hid h
  clear h hm hn
  go_enter Tryz.func79, Tryz.ntmps79
  go_wp2_with ((go_at_call 67; (with_reducible refine ((c1 _ ?_).out).mono ?_); (focus ((exact H.out); done)); rintro e wa ⟨rfl, hb_wa⟩; have hs_wa := hb_wa.size; (try simp at hs_wa)))
  refine bodyPost_ret (v := .tuple #[.slice (some ⟨wa.heap.size, 0, none⟩) 0 0, .bool false]) (by simp [results, Tryz.results79, go_sem]) rfl ⟨⟨_, rfl⟩, (by repeat (first | assumption | exact Below.refl _ _ | (refine below_chain ?_ (by assumption) (by first | omega | (simp <;> omega) | simp)) | (refine Below.alloc ?_ (by first | omega | (simp <;> omega) | simp) _) | (apply below_drewN) | (apply below_drew) | (refine Below.setCell ?_ (by first | omega | (simp <;> omega) | simp) _)))⟩
end Go.Proofs.YtoaomjchaihkaaaGreatDoor
namespace Go.Proofs.YtoaomjchaihkaaaGreatDoor
open Go.RowKit
set_option linter.unusedVariables false

theorem mrg_take {rs : List Rn} {j : Nat} {r : Rn} (h : rs[j]? = some r) (lo hi : Int) : mrg lo hi (rs.take (j + 1)) = mrg lo hi (rs.take j) ++ (if (mv lo hi r).f = (mv lo hi r).t then [] else [mv lo hi r]) := by
  rw [List.take_add_one, h]
  show mrg lo hi (rs.take j ++ [r]) = _
  rw [mrg_append]
  congr 1
  unfold mrg
  by_cases e : (mv lo hi r).f = (mv lo hi r).t
  · rw [if_pos e]; simp [e]
  · rw [if_neg e]; simp [e]
theorem cells4_new (w : World) (a b c d : Int) (T : TypeId) : ∀ (j : Nat) (z : Int), [a, b, c, d][j]? = some z → (w.alloc (.cells #[.int .i64 a, .int .i64 b, .int .i64 c, .int .i64 d] T)).cell? ((⟨w.heap.size, 0, none⟩ : Addr).add j) = some (.int .i64 z) := by
  intro j z h
  rw [add_flat]
  match j, h with
  | 0, h => simp at h; subst h; simp [go_sem]
  | 1, h => simp at h; subst h; simp [go_sem]
  | 2, h => simp at h; subst h; simp [go_sem]
  | 3, h => simp at h; subst h; simp [go_sem]
  | j + 4, h => simp at h
end Go.Proofs.YtoaomjchaihkaaaGreatDoor
