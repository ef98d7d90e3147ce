/-
  What the reference model's labels of linked nodes are.
-/
import Derived.Test.YtjfbkafekkbcdaaNLab
import Derived.Test.YtjfbkafekkbcdaaApp
import Derived.Test.YtjfbkafekkbcdaaNl
import Derived.Deep.Draws
namespace Go.Proofs.Ytjfbkafekkbcdaa
open Go.RowKit
set_option linter.unusedVariables false

noncomputable def labs (n : Int) (rs : List Rn) : List Int := open Classical in if h : ∃ L, IsLab n rs L then Classical.choose h else []
theorem labs_eq {n : Int} {rs : List Rn} {L : List Int} (h : IsLab n rs L) : L = labs n rs := by
  have hex : ∃ L, IsLab n rs L := ⟨L, h⟩
  unfold labs
  rw [dif_pos hex]
  exact h.unique (Classical.choose_spec hex)
theorem labs_le {N : Nat} {rs : List Rn} : (labs N rs).length ≤ N := by
  by_cases h : ∃ L, IsLab N rs L
  · obtain ⟨L, hL⟩ := h
    rw [← labs_eq hL]
    have := hL.len
    omega
  · unfold labs; rw [dif_neg h]; simp
/-- the answer of a call that makes a new list of integers -/
def NewInts (w : World) (zs : List Int) (v : Value) (w' : World) : Prop :=
  ∃ g cap, v = .slice (some ⟨g, 0, none⟩) zs.length cap ∧ w.heap.size ≤ g ∧ Own w' g 3 1 zs.length cap zs ∧ Below w.heap.size w w'
def iota (k : Nat) : List Int := (List.range k).map Int.ofNat
theorem iota_succ (k : Nat) : iota (k + 1) = iota k ++ [(k : Int)] := by simp [iota, List.range_succ]
theorem iota_len (k : Nat) : (iota k).length = k := by simp [iota]
theorem iota_at {k i : Nat} {z : Int} (h : (iota k)[i]? = some z) : z = i := by
  unfold iota at h
  rw [List.getElem?_map] at h
  obtain ⟨x, hx, rfl⟩ := Option.map_eq_some_iff.1 h
  have := List.getElem?_eq_some_iff.1 hx
  obtain ⟨h1, h2⟩ := this
  simp at h2
  simp [h2]
/-- one cell that was just laid -/
theorem one_cell (w : World) (z : Int) (t : TypeId) : ∀ (j : Nat) (y : Int), [z][j]? = some y → (w.alloc (.cells #[.int .i64 z] t)).cell? ((⟨w.heap.size, 0, none⟩ : Addr).add j) = some (.int .i64 y) := by
  intro j y h
  have := cell_one_new w (.int .i64 z) t j (.int .i64 y) (by
    match j, h with
    | 0, h => simp at h; subst h; rfl)
  exact this
theorem run_min (P : Program) (ts : Array TypeId) (t : TypeId) (a b m : Int) (w : World) (h : min a b = m) : (Builtin.min_ ts t #[.int .i64 a, .int .i64 b]).run P w = .ok (.int .i64 m) w := by
  have e : (if b < a then b else a) = m := by rw [← h]; split <;> omega
  simp [Builtin.min_, Builtin.min2]
  simpa using e
theorem run_max (P : Program) (ts : Array TypeId) (t : TypeId) (a b m : Int) (w : World) (h : max a b = m) : (Builtin.max_ ts t #[.int .i64 a, .int .i64 b]).run P w = .ok (.int .i64 m) w := by
  have e : (if b > a then b else a) = m := by rw [← h]; split <;> omega
  simp [Builtin.max_, Builtin.max2]
  simpa using e

theorem lower_own {w : World} {g T cap N : Nat} {L : List Int} {r : Rn} {a b : Nat} (h : Own w g T 1 N cap L) (ha : r.f = (a : Int)) (hb : r.t = (b : Int)) (h1 : a < N) (h2 : b < N) :
    Own ((w.setCell ⟨g, a, none⟩ (.int .i64 (low L r))).setCell ⟨g, b, none⟩ (.int .i64 (low L r))) g T 1 N cap (lower L r) := by
  have hl := h.len
  have := (h.set a (low L r) (by omega)).set b (low L r) (by simp; omega)
  unfold lower
  rw [ha, hb]
  simpa using this

end Go.Proofs.Ytjfbkafekkbcdaa
