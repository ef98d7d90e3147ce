/-
  What the draws of nets use: a pick at any number, a run appended, cells laid together.
-/
import Derived.Test.YtjfbkafekkbcdaaNg
import Derived.Test.YtjfbkafekkbcdaaNLs
import Derived.Test.YtjfbkafekkbcdaaRdr
namespace Go.Proofs.Ytjfbkafekkbcdaa
open Go.RowKit
set_option linter.unusedVariables false

theorem gen_world {P : Program} {c : Code} {Q : Exit → Act → World → Prop} {a : Act} {W : World} (p : World → Prop) (h : p W) (k : ∀ W', p W' → c.wp P Q a W') : c.wp P Q a W := k W h
theorem four_cells (w : World) (a b c d : Int) (t : TypeId) : ∀ (j : Nat) (y : Int), [a, b, c, d][j]? = some y → (w.alloc (.cells #[.int .i64 a, .int .i64 b, .int .i64 c, .int .i64 d] t)).cell? ((⟨w.heap.size, 0, none⟩ : Addr).add j) = some (.int .i64 y) := by
  intro j y h
  rw [Go.WideShapes.add_plain]
  match j, h with
  | 0, h => simp at h; subst h; simp
  | 1, h => simp at h; subst h; simp
  | 2, h => simp at h; subst h; simp
  | 3, h => simp at h; subst h; simp
theorem flat_snoc (rs : List Rn) (a b c d : Int) : flat rs ++ [a, b, c, d] = flat (rs ++ [⟨a, b, c, d⟩]) := by rw [flat_append]; rfl
def Small (rs : List Rn) : Prop := ∀ r ∈ rs, -30 ≤ r.s ∧ r.s ≤ 30
theorem Small.nil : Small [] := fun _ h => by simp at h
theorem Small.snoc {rs : List Rn} (h : Small rs) {a b c d : Int} (h1 : -30 ≤ c) (h2 : c ≤ 30) : Small (rs ++ [⟨a, b, c, d⟩]) := fun r hr => by
  rcases List.mem_append.1 hr with hr | hr
  · exact h r hr
  · simp at hr; subst hr; exact ⟨h1, h2⟩
theorem Small.set {rs : List Rn} (h : Small rs) {k : Nat} {r : Rn} (h1 : -30 ≤ r.s) (h2 : r.s ≤ 30) : Small (rs.set k r) := fun r' hr => by
  rcases List.mem_or_eq_of_mem_set hr with hr | rfl
  · exact h r' hr
  · exact ⟨h1, h2⟩
/-- a list of the call's own, beside the reader's block -/
theorem gb_own {a w w' : World} {R g : Nat} (h : a.grownBy w (some R)) (hg : w.grownBy w' (some g)) (hn : a.heap.size ≤ g) : a.grownBy w' (some R) :=
  ⟨hg.os.trans h.os, hg.tape.trans h.tape, hg.output.trans h.output, Nat.le_trans h.size hg.size, fun i hi hne => (hg.block i (Nat.lt_of_lt_of_le hi h.size) (by simp; omega)).trans (h.block i hi hne)⟩
theorem rdr_own {k R g : Nat} {w w' : World} (h : Rdr k w R) (hg : w.grownBy w' (some g)) (hn : R < g) : Rdr k w' R :=
  rdr_below h ⟨hg.os, hg.tape, hg.output, hg.size, fun i hi => hg.block i (by have := rdr_lt h; omega) (by simp; omega)⟩
/-- a list of runs that is kept in block g -/
def RunsIn (w0 w : World) (R g cap : Nat) (rs : List Rn) : Prop :=
  w0.heap.size ≤ g ∧ Own w g 41 4 rs.length cap (flat rs) ∧ w0.grownBy w (some R)
section
variable {w0 w w' : World} {R g cap k : Nat} {rs : List Rn}
theorem RunsIn.alloc (h : RunsIn w0 w R g cap rs) (o : Obj) : RunsIn w0 (w.alloc o) R g cap rs := ⟨h.1, h.2.1.alloc o, gb_alloc h.2.2 o⟩
theorem RunsIn.moved (h : RunsIn w0 w R g cap rs) (hg : w.grownBy w' (some R)) (hne : g ≠ R) : RunsIn w0 w' R g cap rs := ⟨h.1, h.2.1.grown hg hne, gb_trans h.2.2 hg⟩
theorem RunsIn.set4 (h : RunsIn w0 w R g cap rs) {i : Nat} (hi : i < rs.length) (a b c d : Int) :
    RunsIn w0 ((((w.setCell ⟨g, i * 4, none⟩ (.int .i64 a)).setCell ⟨g, i * 4 + 1, none⟩ (.int .i64 b)).setCell ⟨g, i * 4 + 2, none⟩ (.int .i64 c)).setCell ⟨g, i * 4 + 3, none⟩ (.int .i64 d)) R g cap (rs.set i ⟨a, b, c, d⟩) :=
  ⟨h.1, by have := h.2.1.set4 hi ⟨a, b, c, d⟩; simpa using this, gb_new (gb_new (gb_new (gb_new h.2.2 h.1 _) h.1 _) h.1 _) h.1 _⟩
theorem rdr_set4 (h : Rdr k w R) (hg : R < g) (i a b c d : Nat) (x y z t : Value) :
    Rdr k ((((w.setCell ⟨g, a, none⟩ x).setCell ⟨g, b, none⟩ y).setCell ⟨g, c, none⟩ z).setCell ⟨g, d, none⟩ t) R :=
  rdr_setCell (rdr_setCell (rdr_setCell (rdr_setCell h hg _) hg _) hg _) hg _
theorem flat_any (j : Nat) (z : Int) (hj : j < 4) : ∀ rs : List Rn, 0 < rs.length → ∃ rs' : List Rn, rs'.length = rs.length ∧ flat rs' = (flat rs).set j z
  | [], h => by simp at h
  | r :: rs, _ => by
    match j, hj with
    | 0, _ => exact ⟨⟨z, r.t, r.s, r.g⟩ :: rs, rfl, rfl⟩
    | 1, _ => exact ⟨⟨r.f, z, r.s, r.g⟩ :: rs, rfl, rfl⟩
    | 2, _ => exact ⟨⟨r.f, r.t, z, r.g⟩ :: rs, rfl, rfl⟩
    | 3, _ => exact ⟨⟨r.f, r.t, r.s, z⟩ :: rs, rfl, rfl⟩
theorem RunsIn.any (h : RunsIn w0 w R g cap rs) (h0 : 0 < rs.length) {j : Nat} (hj : j < 4) (z : Int) : ∃ rs', rs'.length = rs.length ∧ RunsIn w0 (w.setCell ⟨g, j, none⟩ (.int .i64 z)) R g cap rs' := by
  obtain ⟨rs', hl, hf⟩ := flat_any j z hj rs h0
  refine ⟨rs', hl, h.1, ?_, gb_new h.2.2 h.1 _⟩
  rw [hf, hl]
  exact h.2.1.set j z (by rw [flat_len]; omega)
theorem two_at (m : Int) (h0 : 0 ≤ m) (h1 : m < 2) (a b : Int) : ∃ z : Int, (#[Value.int .i64 a, Value.int .i64 b] : Array Value)[m.toNat]? = some (.int .i64 z) := by
  have : m = 0 ∨ m = 1 := by omega
  rcases this with rfl | rfl
  · exact ⟨a, rfl⟩
  · exact ⟨b, rfl⟩
end
end Go.Proofs.Ytjfbkafekkbcdaa
