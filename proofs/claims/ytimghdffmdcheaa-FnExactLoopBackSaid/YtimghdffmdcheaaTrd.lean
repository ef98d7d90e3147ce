/-
  The heights that the reference model finds for a tree.
-/
import Derived.Test.YtimghdffmdcheaaTrc
namespace Go.Proofs.Ytimghdffmdcheaa
open Go.RowKit
set_option linter.unusedVariables false

/-- the block g is a row of these bools -/
def Bools (w : World) (g : Nat) (ks : List Bool) : Prop := ∃ cur : Array Value, w.heap[g]? = some (.cells cur 4 (0, 0)) ∧ cur.toList = ks.map .bool
section
variable {w w' : World} {g : Nat} {ks : List Bool}
theorem Bools.lt (h : Bools w g ks) : g < w.heap.size := by obtain ⟨_, hg, _⟩ := h; exact (Array.getElem?_eq_some_iff.1 hg).1
theorem Bools.cell (h : Bools w g ks) {i : Nat} {b : Bool} (hi : ks[i]? = some b) : w.cell? ⟨g, i, none⟩ = some (.bool b) := by
  obtain ⟨cur, hg, hc⟩ := h
  rw [Joins.cell_of_block hg]
  have : cur.toList[i]? = some (.bool b) := by rw [hc, List.getElem?_map, hi]; rfl
  simpa using this
theorem Bools.frozen (h : Bools w g ks) (i : Nat) : w.frozen? ⟨g, i, none⟩ = false := by obtain ⟨_, hg, _⟩ := h; exact Joins.unfrozen_of_block hg i
theorem Bools.block (h : Bools w g ks) (e : w'.heap[g]? = w.heap[g]?) : Bools w' g ks := by obtain ⟨cur, hg, hc⟩ := h; exact ⟨cur, e.trans hg, hc⟩
theorem Bools.below (h : Bools w g ks) (hb : Below w.heap.size w w') : Bools w' g ks := h.block (hb.block _ h.lt)
theorem Bools.alloc (h : Bools w g ks) (o : Obj) : Bools (w.alloc o) g ks := h.block (Deep.blk_alloc_lt _ _ _ h.lt)
theorem Bools.setOther (h : Bools w g ks) {a : Addr} (ha : g ≠ a.block) (v : Value) : Bools (w.setCell a v) g ks := h.block (Deep.blk_setCell_other _ _ _ _ ha)
theorem Bools.set (h : Bools w g ks) (i : Nat) (b : Bool) : Bools (w.setCell ⟨g, i, none⟩ (.bool b)) g (ks.set i b) := by
  obtain ⟨cur, hg, hc⟩ := h
  exact ⟨_, Joins.block_setCell hg _, by simp [hc, List.map_set]⟩
theorem Bools.made (w : World) (n : Nat) : Bools (w.alloc (.cells (madeCells #[.bool false] n) 4)) w.heap.size (List.replicate n false) :=
  ⟨_, Deep.blk_alloc_new _ _, by
    apply List.ext_getElem?
    intro i
    by_cases hi : i < n
    · simp [madeCells, hi, Nat.mod_one, List.getElem?_replicate]
    · have : (madeCells #[Value.bool false] n).toList.length = n := by rw [Array.length_toList]; exact size_madeCells _ _
      rw [List.getElem?_eq_none (by omega), List.getElem?_eq_none (by simp; omega)]⟩
end

end Go.Proofs.Ytimghdffmdcheaa
