/-
  The reference model's heights of a tree.
-/
import Derived.Test.YtimghdffmdcheaaTra
import Derived.Test.YtimghdffmdcheaaNm
namespace Go.Proofs.Ytimghdffmdcheaa
open Go.RowKit
set_option linter.unusedVariables false

/-- the block g is a row of n bools -/
def Flags (w : World) (g n : Nat) : Prop := ∃ cur : Array Value, w.heap[g]? = some (.cells cur 4 (0, 0)) ∧ cur.size = n ∧ ∀ i, i < n → ∃ b, cur[i]? = some (.bool b)
section
variable {w w' : World} {g n : Nat}
theorem Flags.lt (h : Flags w g n) : g < w.heap.size := by obtain ⟨_, hg, _⟩ := h; exact (Array.getElem?_eq_some_iff.1 hg).1
theorem Flags.cell (h : Flags w g n) {i : Nat} (hi : i < n) : ∃ b, w.cell? ⟨g, i, none⟩ = some (.bool b) := by
  obtain ⟨cur, hg, hs, hc⟩ := h
  obtain ⟨b, hb⟩ := hc i hi
  exact ⟨b, by rw [Joins.cell_of_block hg]; exact hb⟩
theorem Flags.frozen (h : Flags w g n) (i : Nat) : w.frozen? ⟨g, i, none⟩ = false := by obtain ⟨_, hg, _⟩ := h; exact Joins.unfrozen_of_block hg i
theorem Flags.block (h : Flags w g n) (e : w'.heap[g]? = w.heap[g]?) : Flags w' g n := by obtain ⟨cur, hg, hs, hc⟩ := h; exact ⟨cur, e.trans hg, hs, hc⟩
theorem Flags.below (h : Flags w g n) (hb : Below w.heap.size w w') : Flags w' g n := h.block (hb.block _ h.lt)
theorem Flags.alloc (h : Flags w g n) (o : Obj) : Flags (w.alloc o) g n := h.block (Deep.blk_alloc_lt _ _ _ h.lt)
theorem Flags.setOther (h : Flags w g n) {a : Addr} (ha : g ≠ a.block) (v : Value) : Flags (w.setCell a v) g n := h.block (Deep.blk_setCell_other _ _ _ _ ha)
theorem Flags.set (h : Flags w g n) (i : Nat) (b : Bool) : Flags (w.setCell ⟨g, i, none⟩ (.bool b)) g n := by
  obtain ⟨cur, hg, hs, hc⟩ := h
  refine ⟨_, Joins.block_setCell hg _, by simpa using hs, fun j hj => ?_⟩
  rw [Array.getElem?_setIfInBounds]
  split
  · split
    · exact ⟨b, rfl⟩
    · rename_i e hn; subst e; omega
  · exact hc j hj
theorem Flags.made (w : World) (n : Nat) : Flags (w.alloc (.cells (madeCells #[.bool false] n) 4)) w.heap.size n :=
  ⟨_, Deep.blk_alloc_new _ _, size_madeCells _ _, fun i hi => ⟨false, by simp [madeCells, hi, Nat.mod_one]⟩⟩
end
theorem info_bool : (Try.prog.info? 4).map (fun i => (i.zero, i.size, i.bytes)) = some (some (.bool false), 1, 1) := by kernel_rfl
theorem made_bools (w : World) (n : Nat) (hn : n ≤ 1048576) : (Instr.makeSlice 76 (.int .i64 (n : Int)) (.int .i64 (n : Int))).run Try.prog w = .ok (.slice (some ⟨w.heap.size, 0, none⟩) n n) (w.alloc (.cells (madeCells #[.bool false] n) 4)) := by
  obtain ⟨i, hi, hzz⟩ := Option.map_eq_some_iff.1 info_bool
  simp only [Prod.mk.injEq] at hzz
  obtain ⟨hz, hs, hb⟩ := hzz
  have := run_make (P := Try.prog) w 76 4 i _ Try.underlying76 hi hz .i64 .i64 n n (by omega) (Int.le_refl _) (by rw [hb]; omega) (by omega)
  simp only [Int.toNat_natCast, hs, Nat.mul_one] at this
  exact this

end Go.Proofs.Ytimghdffmdcheaa
