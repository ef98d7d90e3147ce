/-
  The reference model's trees: the runs that a list of indexes names, and the first tree.
  The reference model's heights of a tree.
  The reference model's trees, for any list of indexes: TreeIs, TreeFirst, TreeHeights.
  The heights that the reference model finds for a tree.
-/
import Derived.Test.YtoaomjchaihkaaaGreatDoorZh
import Derived.Test.YtoaomjchaihkaaaGreatDoorZf
import Derived.Test.YtoaomjchaihkaaaGreatDoorZo
import Derived.Test.YtoaomjchaihkaaaGreatDoorZi
namespace Go.Proofs.YtoaomjchaihkaaaGreatDoor
open Go.RowKit
set_option linter.unusedVariables false

theorem sLabels_at {N : Nat} {p : Option Addr} {c m : Nat} {rs : List Rn} (w : World) (hm : rs.length = m) (h : Runs w p rs) (hn : nOk N rs = true) :
    Calls Tryz.prog 112 #[.int .i64 N, .slice p m c] w fun e w' => ∃ v, e = .returned v ∧ NewInts w (labs N rs) v w' := by
  subst hm; exact sLabels N p c rs w h hn
theorem sWhole_at {N : Nat} {p : Option Addr} {c m : Nat} {rs : List Rn} {b : Bool} (w : World) (hm : rs.length = m) (h : Runs w p rs) (hl : m ≤ 100) (hb : nWhole N rs = b) :
    Calls Tryz.prog 37 #[.int .i64 N, .slice p m c] w fun e w' => e = .returned (.bool b) ∧ Below w.heap.size w w' := by
  subst hm; exact sWhole N p c rs b w h (by omega) hb
theorem sValid_at {N : Nat} {p : Option Addr} {c m : Nat} {rs : List Rn} {b : Bool} (w : World) (hm : rs.length = m) (h : Runs w p rs) (hl : m ≤ 100) (hb : nOk N rs = b) :
    Calls Tryz.prog 67 #[.int .i64 N, .slice p m c] w fun e w' => e = .returned (.bool b) ∧ Below w.heap.size w w' := by
  subst hm; exact sValid N p c rs b w h (by omega) hb

end Go.Proofs.YtoaomjchaihkaaaGreatDoor
namespace Go.Proofs.YtoaomjchaihkaaaGreatDoor
open Go.RowKit
set_option linter.unusedVariables false

/-- the block g is a row of n bools -/
def Flags (w : World) (g n : Nat) : Prop := ∃ cur : Array Value, w.heap[g]? = some (.cells cur 4 (0, 0)) ∧ cur.size = n ∧ ∀ i, i < n → ∃ b, cur[i]? = some (.bool b)
section
variable {w w' : World} {g n : Nat}
theorem Flags.lt (h : Flags w g n) : g < w.heap.size := by obtain ⟨_, hg, _⟩ := h; exact (Array.getElem?_eq_some_iff.1 hg).1
theorem Flags.cell (h : Flags w g n) {i : Nat} (hi : i < n) : ∃ b, w.cell? ⟨g, i, none⟩ = some (.bool b) := by
  obtain ⟨cur, hg, hs, hc⟩ := h
  obtain ⟨b, hb⟩ := hc i hi
  exact ⟨b, by rw [Joins.cell_of_block hg]; exact hb⟩
theorem Flags.frozen (h : Flags w g n) (i : Nat) : w.frozen? ⟨g, i, none⟩ = false := by obtain ⟨_, hg, _⟩ := h; exact Joins.unfrozen_of_block hg i
theorem Flags.block (h : Flags w g n) (e : w'.heap[g]? = w.heap[g]?) : Flags w' g n := by obtain ⟨cur, hg, hs, hc⟩ := h; exact ⟨cur, e.trans hg, hs, hc⟩
theorem Flags.below (h : Flags w g n) (hb : Below w.heap.size w w') : Flags w' g n := h.block (hb.block _ h.lt)
theorem Flags.alloc (h : Flags w g n) (o : Obj) : Flags (w.alloc o) g n := h.block (Deep.blk_alloc_lt _ _ _ h.lt)
theorem Flags.setOther (h : Flags w g n) {a : Addr} (ha : g ≠ a.block) (v : Value) : Flags (w.setCell a v) g n := h.block (Deep.blk_setCell_other _ _ _ _ ha)
theorem Flags.set (h : Flags w g n) (i : Nat) (b : Bool) : Flags (w.setCell ⟨g, i, none⟩ (.bool b)) g n := by
  obtain ⟨cur, hg, hs, hc⟩ := h
  refine ⟨_, Joins.block_setCell hg _, by simpa using hs, fun j hj => ?_⟩
  rw [Array.getElem?_setIfInBounds]
  split
  · split
    · exact ⟨b, rfl⟩
    · rename_i e hn; subst e; omega
  · exact hc j hj
theorem Flags.made (w : World) (n : Nat) : Flags (w.alloc (.cells (madeCells #[.bool false] n) 4)) w.heap.size n :=
  ⟨_, Deep.blk_alloc_new _ _, size_madeCells _ _, fun i hi => ⟨false, by simp [madeCells, hi, Nat.mod_one]⟩⟩
end
theorem info_bool : (Tryz.prog.info? 4).map (fun i => (i.zero, i.size, i.bytes)) = some (some (.bool false), 1, 1) := by kernel_rfl
theorem made_bools (w : World) (n : Nat) (hn : n ≤ 1048576) : (Instr.makeSlice 75 (.int .i64 (n : Int)) (.int .i64 (n : Int))).run Tryz.prog w = .ok (.slice (some ⟨w.heap.size, 0, none⟩) n n) (w.alloc (.cells (madeCells #[.bool false] n) 4)) := by
  obtain ⟨i, hi, hzz⟩ := Option.map_eq_some_iff.1 info_bool
  simp only [Prod.mk.injEq] at hzz
  obtain ⟨hz, hs, hb⟩ := hzz
  have := run_make (P := Tryz.prog) w 75 4 i _ Tryz.underlying75 hi hz .i64 .i64 n n (by omega) (Int.le_refl _) (by rw [hb]; omega) (by omega)
  simp only [Int.toNat_natCast, hs, Nat.mul_one] at this
  exact this

end Go.Proofs.YtoaomjchaihkaaaGreatDoor
namespace Go.Proofs.YtoaomjchaihkaaaGreatDoor
open Go.RowKit
set_option linter.unusedVariables false

theorem sValid_n {n : Int} {p : Option Addr} {c m : Nat} {rs : List Rn} {b : Bool} (w : World) (hm : rs.length = m) (h : Runs w p rs) (hl : m ≤ 4000000000000000000) (hb : nOk n rs = b) :
    Calls Tryz.prog 67 #[.int .i64 n, .slice p m c] w fun e w' => e = .returned (.bool b) ∧ Below w.heap.size w w' := by
  subst hm; exact sValid n p c rs b w h hl hb
theorem sWhole_n {n : Int} {p : Option Addr} {c m : Nat} {rs : List Rn} {b : Bool} (w : World) (hm : rs.length = m) (h : Runs w p rs) (hl : m ≤ 4000000000000000000) (hb : nWhole n rs = b) :
    Calls Tryz.prog 37 #[.int .i64 n, .slice p m c] w fun e w' => e = .returned (.bool b) ∧ Below w.heap.size w w' := by
  subst hm; exact sWhole n p c rs b w h hl hb

/-- the first j indexes ascend in range, and t is the last of them (-1: there is none) -/
structure UpTo (m : Nat) (T : List Int) (j : Nat) (t : Int) : Prop where
  asc : Asc m (T.take j)
  last : (j = 0 ∧ t = -1) ∨ ∃ i, i + 1 = j ∧ T[i]? = some t
theorem UpTo.start (m : Nat) (T : List Int) : UpTo m T 0 (-1) := ⟨⟨fun z hz => by simp at hz, by simp⟩, .inl ⟨rfl, rfl⟩⟩
theorem UpTo.low {m : Nat} {T : List Int} {j : Nat} {t : Int} (h : UpTo m T j t) : -1 ≤ t ∧ t ≤ m := by
  rcases h.last with ⟨-, rfl⟩ | ⟨i, hi, ht⟩
  · omega
  · have := h.asc.rng t (List.mem_of_getElem? (i := i) (by rw [List.getElem?_take, if_pos (by omega)]; exact ht)); omega
theorem UpTo.step {m : Nat} {T : List Int} {j : Nat} {t z : Int} (h : UpTo m T j t) (hz : T[j]? = some z) (h0 : t + 1 ≤ z) (h1 : z ≤ (m : Int) - 1) : UpTo m T (j + 1) z := by
  have hlow := h.low
  refine ⟨?_, .inr ⟨j, rfl, hz⟩⟩
  rw [take_succ_of hz]
  have hle : ∀ y ∈ T.take j, y ≤ t := fun y hy => by
    obtain ⟨i, hi⟩ := List.getElem?_of_mem hy
    rcases h.last with ⟨rfl, -⟩ | ⟨q, hq, ht⟩
    · simp at hy
    · have hil := (List.getElem?_eq_some_iff.1 hi).1
      simp at hil
      have ht' : (T.take j)[q]? = some t := by rw [List.getElem?_take, if_pos (by omega)]; exact ht
      by_cases e : i = q
      · subst e; rw [hi] at ht'; cases ht'; omega
      · have := h.asc.get hi ht' (by omega); omega
  refine ⟨fun y hy => ?_, List.pairwise_append.2 ⟨h.asc.up, by simp, fun a ha b hb => ?_⟩⟩
  · rcases List.mem_append.1 hy with h' | h'
    · exact h.asc.rng y h'
    · simp at h'; subst h'; omega
  · simp at hb; subst hb
    have := hle a ha; omega
theorem UpTo.no {m : Nat} {T : List Int} {j : Nat} {t z : Int} (h : UpTo m T j t) (hz : T[j]? = some z) (hno : ¬ (t + 1 ≤ z ∧ z ≤ (m : Int) - 1)) : ¬ Asc m T := fun ha => by
  obtain ⟨z0, z1⟩ := ha.rng z (List.mem_of_getElem? hz)
  rcases h.last with ⟨rfl, rfl⟩ | ⟨i, hi, ht⟩
  · omega
  · have := ha.get ht hz (by omega); omega

end Go.Proofs.YtoaomjchaihkaaaGreatDoor
namespace Go.Proofs.YtoaomjchaihkaaaGreatDoor
open Go.RowKit
set_option linter.unusedVariables false

/-- the block g is a row of these bools -/
def Bools (w : World) (g : Nat) (ks : List Bool) : Prop := ∃ cur : Array Value, w.heap[g]? = some (.cells cur 4 (0, 0)) ∧ cur.toList = ks.map .bool
section
variable {w w' : World} {g : Nat} {ks : List Bool}
theorem Bools.lt (h : Bools w g ks) : g < w.heap.size := by obtain ⟨_, hg, _⟩ := h; exact (Array.getElem?_eq_some_iff.1 hg).1
theorem Bools.cell (h : Bools w g ks) {i : Nat} {b : Bool} (hi : ks[i]? = some b) : w.cell? ⟨g, i, none⟩ = some (.bool b) := by
  obtain ⟨cur, hg, hc⟩ := h
  rw [Joins.cell_of_block hg]
  have : cur.toList[i]? = some (.bool b) := by rw [hc, List.getElem?_map, hi]; rfl
  simpa using this
theorem Bools.frozen (h : Bools w g ks) (i : Nat) : w.frozen? ⟨g, i, none⟩ = false := by obtain ⟨_, hg, _⟩ := h; exact Joins.unfrozen_of_block hg i
theorem Bools.block (h : Bools w g ks) (e : w'.heap[g]? = w.heap[g]?) : Bools w' g ks := by obtain ⟨cur, hg, hc⟩ := h; exact ⟨cur, e.trans hg, hc⟩
theorem Bools.below (h : Bools w g ks) (hb : Below w.heap.size w w') : Bools w' g ks := h.block (hb.block _ h.lt)
theorem Bools.alloc (h : Bools w g ks) (o : Obj) : Bools (w.alloc o) g ks := h.block (Deep.blk_alloc_lt _ _ _ h.lt)
theorem Bools.setOther (h : Bools w g ks) {a : Addr} (ha : g ≠ a.block) (v : Value) : Bools (w.setCell a v) g ks := h.block (Deep.blk_setCell_other _ _ _ _ ha)
theorem Bools.set (h : Bools w g ks) (i : Nat) (b : Bool) : Bools (w.setCell ⟨g, i, none⟩ (.bool b)) g (ks.set i b) := by
  obtain ⟨cur, hg, hc⟩ := h
  exact ⟨_, Joins.block_setCell hg _, by simp [hc, List.map_set]⟩
theorem Bools.made (w : World) (n : Nat) : Bools (w.alloc (.cells (madeCells #[.bool false] n) 4)) w.heap.size (List.replicate n false) :=
  ⟨_, Deep.blk_alloc_new _ _, by
    apply List.ext_getElem?
    intro i
    by_cases hi : i < n
    · simp [madeCells, hi, Nat.mod_one]
    · have : (madeCells #[Value.bool false] n).toList.length = n := by rw [Array.length_toList]; exact size_madeCells _ _
      rw [List.getElem?_eq_none (by omega), List.getElem?_eq_none (by simp; omega)]⟩
end

end Go.Proofs.YtoaomjchaihkaaaGreatDoor
