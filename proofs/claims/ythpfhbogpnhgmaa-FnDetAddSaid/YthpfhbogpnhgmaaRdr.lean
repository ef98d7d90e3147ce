/-
  The reader of the draws as a relation that later calls keep: what pick, l6Open and new memory leave of it.
-/
import Derived.Test.YthpfhbogpnhgmaaPick
import Derived.Test.YthpfhbogpnhgmaaBase
import Derived.Lib.SmallJoins
import Derived.Maps.AppendAt
namespace Go.Proofs.Ythpfhbogpnhgmaa
open Go.RowKit
set_option linter.unusedVariables false

/-- the bytes that a slice value holds, in a block before R -/
def Bts (w : World) (R : Nat) (v : Value) : Prop :=
  (∃ (a : Option Addr) (c : Nat), v = .slice a 0 c) ∨
  ∃ (D off len cap : Nat) (f : Nat → Int), v = .slice (some ⟨D, off, none⟩) len cap ∧ 0 < len ∧ len ≤ 2000 ∧ D < R ∧ ∀ j, j < len → w.cell? ⟨D, off + j, none⟩ = some (.int .u8 (f j)) ∧ 0 ≤ f j ∧ f j ≤ 255
/-- a reader in block R that has read at most k numbers -/
def Rdr (k : Nat) (w : World) (R : Nat) : Prop :=
  ∃ (p : Nat) (v : Value), p ≤ k ∧ w.heap[R]? = some (.cells #[v, .int .i64 p] 64 (0, 0)) ∧ Bts w R v
def PickPost (k R : Nat) (n : Int) (w : World) (e : Ending) (w' : World) : Prop :=
  ∃ m : Int, 0 ≤ m ∧ m < n ∧ e = .returned (.int .i64 m) ∧ Rdr (k + 1) w' R ∧ w.grownBy w' (some R) ∧ w'.heap.size = w.heap.size

theorem rdr_lt {k R : Nat} {w : World} (h : Rdr k w R) : R < w.heap.size := by
  obtain ⟨p, v, _, hb, _⟩ := h
  exact (Array.getElem?_eq_some_iff.1 hb).1
theorem bts_below {R : Nat} {w w' : World} {v : Value} (h : Bts w R v) (hb : Below R w w') : Bts w' R v := by
  rcases h with ⟨a, c, rfl⟩ | ⟨D, off, len, cap, f, rfl, h1, h2, h3, h4⟩
  · exact .inl ⟨a, c, rfl⟩
  · refine .inr ⟨D, off, len, cap, f, rfl, h1, h2, h3, fun j hj => ?_⟩
    rw [hb.cell (p := ⟨D, off + j, none⟩) h3]
    exact h4 j hj
theorem rdr_below {k R : Nat} {w w' : World} (h : Rdr k w R) (hb : Below (R + 1) w w') : Rdr k w' R := by
  obtain ⟨p, v, hp, hc, hv⟩ := h
  exact ⟨p, v, hp, by rw [hb.block R (by omega)]; exact hc, bts_below hv (hb.mono (by omega))⟩
theorem rdr_mono {k k' R : Nat} {w : World} (h : Rdr k w R) (hk : k ≤ k') : Rdr k' w R := by
  obtain ⟨p, v, hp, hc, hv⟩ := h
  exact ⟨p, v, by omega, hc, hv⟩
theorem rdr_alloc {k R : Nat} {w : World} (h : Rdr k w R) (o : Obj) : Rdr k (w.alloc o) R :=
  rdr_below h ((Below.refl _ _).alloc (by have := rdr_lt h; omega) _)
theorem rdr_drewN {k R : Nat} {w : World} (h : Rdr k w R) (n : Nat) : Rdr k (w.drewN n) R := h
theorem rdr_drew {k R : Nat} {w : World} (h : Rdr k w R) : Rdr k w.drew R := h
theorem rdr_setCell {k R : Nat} {w : World} (h : Rdr k w R) {a : Addr} (ha : R < a.block) (v : Value) : Rdr k (w.setCell a v) R :=
  rdr_below h ((Below.refl _ _).setCell (by omega) _)
theorem rdr_chain {k R : Nat} {w w' : World} (h : Rdr k w R) (hb : Below w.heap.size w w') : Rdr k w' R :=
  rdr_below h (hb.mono (by have := rdr_lt h; omega))

theorem gb_refl (w : World) (r : Option Nat) : w.grownBy w r := ⟨rfl, rfl, rfl, Nat.le_refl _, fun _ _ _ => rfl⟩
theorem gb_drewN {a w : World} {row : Option Nat} (h : a.grownBy w row) (n : Nat) : a.grownBy (w.drewN n) row := ⟨h.os, h.tape, h.output, h.size, h.block⟩
theorem gb_drew {a w : World} {row : Option Nat} (h : a.grownBy w row) : a.grownBy w.drew row := ⟨h.os, h.tape, h.output, h.size, h.block⟩
theorem gb_alloc {a w : World} {row : Option Nat} (h : a.grownBy w row) (o : Obj) : a.grownBy (w.alloc o) row :=
  ⟨h.os, h.tape, h.output, Nat.le_trans h.size (by simp), fun i hi hne => (Below.heap_alloc w o i (Nat.lt_of_lt_of_le hi h.size)).trans (h.block i hi hne)⟩
theorem gb_setCell {a w : World} {g : Nat} (h : a.grownBy w (some g)) {p : Addr} (hp : p.block = g ∨ a.heap.size ≤ p.block) (u : Value) : a.grownBy (w.setCell p u) (some g) :=
  ⟨h.os, h.tape, h.output, by simpa [World.setCell] using h.size, fun i hi hne => (Below.heap_setCell w p u i (by
    rintro rfl
    rcases hp with hp | hp
    · exact hne (by rw [hp])
    · omega)).trans (h.block i hi hne)⟩
theorem gb_new {a w : World} {g : Nat} (h : a.grownBy w (some g)) {p : Addr} (hp : a.heap.size ≤ p.block) (u : Value) : a.grownBy (w.setCell p u) (some g) := gb_setCell h (.inr hp) u
theorem gb_below {a w w' : World} {row : Option Nat} (h : a.grownBy w row) (hb : Below w.heap.size w w') : a.grownBy w' row :=
  ⟨hb.os.trans h.os, hb.tape.trans h.tape, hb.output.trans h.output, Nat.le_trans h.size hb.size, fun i hi hne => (hb.block i (Nat.lt_of_lt_of_le hi h.size)).trans (h.block i hi hne)⟩
theorem gb_trans {a b c : World} {row : Option Nat} (h : a.grownBy b row) (k : b.grownBy c row) : a.grownBy c row :=
  ⟨k.os.trans h.os, k.tape.trans h.tape, k.output.trans h.output, Nat.le_trans h.size k.size, fun i hi hne => (k.block i (Nat.lt_of_lt_of_le hi h.size) hne).trans (h.block i hi hne)⟩
/-- a change on a new block alone is none below -/
theorem below_gb {B g : Nat} {a w w' : World} (h : Below B a w) (hg : w.grownBy w' (some g)) (hB : B ≤ g) (hs : B ≤ w.heap.size) : Below B a w' :=
  ⟨hg.os.trans h.os, hg.tape.trans h.tape, hg.output.trans h.output, Nat.le_trans h.size hg.size, fun i hi => (hg.block i (Nat.lt_of_lt_of_le hi hs) (by simp; omega)).trans (h.block i hi)⟩
theorem gcell {w w' : World} {g : Nat} (hg : w.grownBy w' (some g)) : (∀ b o, b < w.heap.size → b ≠ g → w'.cell? ⟨b, o, none⟩ = w.cell? ⟨b, o, none⟩) ∧ (∀ b o, b < w.heap.size → b ≠ g → w'.frozen? ⟨b, o, none⟩ = w.frozen? ⟨b, o, none⟩) :=
  ⟨fun b o h hn => World.cell?_of_block (a := ⟨b, o, none⟩) (hg.block b h (by simpa using hn)), fun b o h hn => World.frozen?_of_block (a := ⟨b, o, none⟩) (hg.block b h (by simpa using hn))⟩

theorem rdr_step {k R p j : Nat} {w : World} {v : Value} (hp : p ≤ k) (hc : w.heap[R]? = some (.cells #[v, .int .i64 p] 64 (0, 0))) (hv : Bts w R v) :
    Rdr (k + 1) ((w.setCell ⟨R, 1, none⟩ (.int .i64 ((p : Int) + 1))).drewN j) R ∧ w.grownBy ((w.setCell ⟨R, 1, none⟩ (.int .i64 ((p : Int) + 1))).drewN j) (some R) ∧ ((w.setCell ⟨R, 1, none⟩ (.int .i64 ((p : Int) + 1))).drewN j).heap.size = w.heap.size := by
  have hb : Below R w (w.setCell ⟨R, 1, none⟩ (.int .i64 ((p : Int) + 1))) := (Below.refl R w).setCell (p := ⟨R, 1, none⟩) (Nat.le_refl R) _
  refine ⟨⟨p + 1, v, by omega, ?_, bts_below hv (below_drewN hb _)⟩, gb_drewN (gb_setCell (gb_refl _ _) (.inl rfl) _) _, by simp [World.setCell]⟩
  show (w.setCell ⟨R, 1, none⟩ (.int .i64 ((p : Int) + 1))).heap[R]? = _
  rw [Joins.block_setCell hc]
  simp

theorem pick_any (k R : Nat) (n : Int) (w : World) (h : Rdr k w R) (hk : k ≤ 1000000000) (hn : 1 ≤ n) (hn' : n ≤ 1000000) :
    Calls Try.prog 44 #[.pointer (some ⟨R, 0, none⟩), .int .i64 n] w (PickPost k R n w) := by
  obtain ⟨p, v, hp, hc, hv⟩ := h
  have c0 : w.cell? ⟨R, 0, none⟩ = some v := by simp [World.cell?, hc]
  have c1 : w.cell? ⟨R, 1, none⟩ = some (.int .i64 p) := by simp [World.cell?, hc]
  have cf : w.frozen? ⟨R, 1, none⟩ = false := by simp [World.frozen?, hc]
  have hst := fun j => rdr_step (j := j) hp hc hv
  rcases hv with ⟨a, c, rfl⟩ | ⟨D, off, len, cap, f, rfl, h1, h2, h3, h4⟩
  · exact (pick_none R p n a c w (by omega) c0 c1 cf hn hn').mono fun e w' ⟨he, hw⟩ => ⟨0, by omega, by omega, he, by rw [hw]; exact hst 0⟩
  · by_cases hl : p < len
    · obtain ⟨hx, x0, x1⟩ := h4 p hl
      exact (pick_code R D off len cap p n (f p) w (by omega) c0 c1 cf hn hn' h2 hl (by omega) hx x0 x1).mono fun e w' ⟨he, hw⟩ => ⟨f p % n, Int.emod_nonneg _ (by omega), Int.emod_lt_of_pos _ (by omega), he, by rw [hw]; exact hst 0⟩
    · have q0 : 0 ≤ (p : Int).tmod len := Int.tmod_nonneg _ (by omega)
      have q1 : (p : Int).tmod len < len := Int.tmod_lt_of_pos _ (by omega)
      have q2 : 0 ≤ ((p : Int) * 7 + 3).tmod len := Int.tmod_nonneg _ (by omega)
      have q3 : ((p : Int) * 7 + 3).tmod len < len := Int.tmod_lt_of_pos _ (by omega)
      obtain ⟨hx, x0, x1⟩ := h4 ((p : Int).tmod len).toNat (by omega)
      obtain ⟨hy, y0, y1⟩ := h4 (((p : Int) * 7 + 3).tmod len).toNat (by omega)
      exact (pick_past R D off len cap p n _ _ w (by omega) c0 c1 cf hn hn' h2 h1 (by omega) (by omega) hx x0 x1 hy y0 y1).mono fun e w' ⟨m, m0, m1, he, j, hw⟩ => ⟨m, m0, m1, he, by rw [hw]; exact hst j⟩

/-- what a law's code is: no bytes, or bytes in memory that is there -/
def Code' (w : World) (v : Value) : Prop :=
  (∃ (a : Option Addr) (c : Nat), v = .slice a 0 c) ∨
  ∃ (D off len cap : Nat) (f : Nat → Int), v = .slice (some ⟨D, off, none⟩) len cap ∧ 0 < len ∧ len ≤ cap ∧ len ≤ 1048576 ∧ D < w.heap.size ∧ ∀ j, j < len → w.cell? ⟨D, off + j, none⟩ = some (.int .u8 (f j)) ∧ 0 ≤ f j ∧ f j ≤ 255
def OpenPost (w : World) (e : Ending) (w' : World) : Prop :=
  e = .returned (.pointer (some ⟨w.heap.size, 0, none⟩)) ∧ Rdr 0 w' w.heap.size ∧ Below w.heap.size w w' ∧ w'.heap.size = w.heap.size + 1

theorem open_world {w : World} {v : Value} (hv : Bts w w.heap.size v) :
    Rdr 0 (w.alloc (.cells #[v, .int .i64 0] 64)) w.heap.size ∧ Below w.heap.size w (w.alloc (.cells #[v, .int .i64 0] 64)) ∧ (w.alloc (.cells #[v, .int .i64 0] 64)).heap.size = w.heap.size + 1 := by
  have hb : Below w.heap.size w (w.alloc (.cells #[v, .int .i64 0] 64)) := (Below.refl _ _).alloc (Nat.le_refl _) _
  refine ⟨⟨0, v, by omega, ?_, bts_below hv hb⟩, hb, by simp⟩
  show (w.heap.push _)[w.heap.size]? = _
  simp

theorem open_none (a : Option Addr) (c : Nat) (w : World) :
    Calls Try.prog 42 #[.slice a 0 c] w (OpenPost w) := by
  have hw := Lib.hid (open_world (w := w) (v := .slice a 0 c) (.inl ⟨a, c, rfl⟩))
  go_enter Try.func42, Try.ntmps42
  go_wp2
  go_ret
  exact ⟨rfl, hw.out⟩
theorem open_short (D off len cap : Nat) (f : Nat → Int) (w : World) (h0 : 0 < len) (h1 : len ≤ 2000) (hD : D < w.heap.size) (hf : ∀ j, j < len → w.cell? ⟨D, off + j, none⟩ = some (.int .u8 (f j)) ∧ 0 ≤ f j ∧ f j ≤ 255) :
    Calls Try.prog 42 #[.slice (some ⟨D, off, none⟩) len cap] w (OpenPost w) := by
  have hw := Lib.hid (open_world (w := w) (v := .slice (some ⟨D, off, none⟩) len cap) (.inr ⟨D, off, len, cap, f, rfl, h0, h1, hD, hf⟩))
  clear hf
  have h2 : ¬ (2000 : Int) < (len : Int) := by omega
  go_enter Try.func42, Try.ntmps42
  go_wp2
  go_ret
  exact ⟨rfl, hw.out⟩
theorem open_long (D off len cap : Nat) (f : Nat → Int) (w : World) (h1 : 2000 < len) (hc : len ≤ cap) (hm : len ≤ 1048576) (hD : D < w.heap.size) (hf : ∀ j, j < len → w.cell? ⟨D, off + j, none⟩ = some (.int .u8 (f j)) ∧ 0 ≤ f j ∧ f j ≤ 255) :
    Calls Try.prog 42 #[.slice (some ⟨D, off, none⟩) len cap] w (OpenPost w) := by
  have hw := Lib.hid (open_world (w := w) (v := .slice (some ⟨D, off, none⟩) 2000 cap) (.inr ⟨D, off, 2000, cap, f, rfl, by omega, by omega, hD, fun j hj => hf j (by omega)⟩))
  clear hf
  have h2 : (2000 : Int) < (len : Int) := by omega
  have h3 : (2000 : Int) ≤ (cap : Int) := by omega
  go_enter Try.func42, Try.ntmps42
  go_wp2
  go_ret
  exact ⟨rfl, hw.out⟩

theorem open_any (v : Value) (w : World) (h : Hid (Code' w v)) :
    Calls Try.prog 42 #[v] w (OpenPost w) := by
  rcases h.out with ⟨a, c, rfl⟩ | ⟨D, off, len, cap, f, rfl, h1, h2, h3, h4, h5⟩
  · exact open_none a c w
  · by_cases hl : len ≤ 2000
    · exact open_short D off len cap f w h1 hl h4 h5
    · exact open_long D off len cap f w (by omega) h2 h3 h4 h5
end Go.Proofs.Ythpfhbogpnhgmaa
