/-
  The reader of the draws: whatever the code, pick returns a number from 0 to n - 1 and moves on by one place; nothing else that existed is changed.
  The reader of the draws as a relation that later calls keep: what pick, l6Open and new memory leave of it.
  What the draws of nets use: a pick at any number, a run appended, cells laid together.
-/
import Derived.Test.YtgncjpakclbegaaProg
import Derived.WalkKit
import Derived.RegionTactic
import Derived.Deep.QuietTactic
import Derived.BigQuiet
import Derived.IntWalk
import Derived.Lib.Hide
import Derived.Below
import Derived.Laws.AppendOwn
import Derived.Laws.BitsAllLaws
import Derived.Laws.BitsLemmas
import Derived.Deep.DeepCutAuto
import Derived.Test.YtgncjpakclbegaaZa
import Derived.Lib.SmallJoins
import Derived.Maps.AppendAt
import Derived.Test.YtgncjpakclbegaaZf
import Derived.Test.YtgncjpakclbegaaZg
namespace Go.Proofs.Ytgncjpakclbegaa
open Go.RowKit
set_option linter.unusedVariables false

theorem pick_none (R : Nat) (p : Nat) (n : Int) (a : Option Addr) (c : Nat) (w : World) (hp : p ≤ 1000000000) (h0 : w.cell? ⟨R, 0, none⟩ = some (.slice a 0 c)) (h1 : w.cell? ⟨R, 1, none⟩ = some (.int .i64 p)) (hf : w.frozen? ⟨R, 1, none⟩ = false) (hn : 1 ≤ n) (hn' : n ≤ 1000000) :
    Calls Try.prog 60 #[.pointer (some ⟨R, 0, none⟩), .int .i64 n] w fun e w' => e = .returned (.int .i64 0) ∧ w' = w.setCell ⟨R, 1, none⟩ (.int .i64 ((p : Int) + 1)) := by
  go_enter Try.func60, Try.ntmps60
  go_wp2
  go_ret
  exact ⟨rfl, rfl⟩

theorem pick_code (R D off len cap : Nat) (p : Nat) (n x : Int) (w : World) (hp : p ≤ 1000000000) (h0 : w.cell? ⟨R, 0, none⟩ = some (.slice (some ⟨D, off, none⟩) len cap)) (h1 : w.cell? ⟨R, 1, none⟩ = some (.int .i64 p)) (hf : w.frozen? ⟨R, 1, none⟩ = false) (hn : 1 ≤ n) (hn' : n ≤ 1000000)
    (hl : len ≤ 2000) (hpl : p < len) (hD : D ≠ R) (hx : w.cell? ⟨D, off + p, none⟩ = some (.int .u8 x)) (x0 : 0 ≤ x) (x1 : x ≤ 255) :
    Calls Try.prog 60 #[.pointer (some ⟨R, 0, none⟩), .int .i64 n] w fun e w' => e = .returned (.int .i64 (x % n)) ∧ w' = w.setCell ⟨R, 1, none⟩ (.int .i64 ((p : Int) + 1)) := by
  have e1 : ((len : Int) == 0) = false := by simp; omega
  have e2 : (n == 0) = false := by simp; omega
  go_enter Try.func60, Try.ntmps60
  go_wp2
  go_ret
  exact ⟨rfl, rfl⟩

theorem ofInt_i64 (a : Nat) (ha : a < 9223372036854775808) : (BitVec.ofInt 64 (a : Int)).toNat = a := by
  rw [BitVec.ofInt_natCast, BitVec.toNat_ofNat]; exact Nat.mod_eq_of_lt (by omega)
theorem i64_xor_nat (a b : Nat) (ha : a < 9223372036854775808) (hb : b < 9223372036854775808) : bits .xor .i64 (a : Int) (b : Int) = ((a ^^^ b : Nat) : Int) := by
  have hx : a ^^^ b < 2 ^ 63 := Nat.xor_lt_two_pow (by omega) (by omega)
  show IntKind.i64.wrap ((BitVec.ofInt 64 (a : Int) ^^^ BitVec.ofInt 64 (b : Int)).toNat : Int) = _
  rw [BitVec.toNat_xor, ofInt_i64 a ha, ofInt_i64 b hb, IntKind.wrap_i64]
  omega
theorem mixed (z : Nat) (n : Int) (hz : z ≤ 1000000000000) (hn : 1 ≤ n) : 0 ≤ (bits .xor .i64 (z : Int) ((z : Int) / 64)).tmod n ∧ (bits .xor .i64 (z : Int) ((z : Int) / 64)).tmod n < n := by
  have e : bits .xor .i64 (z : Int) ((z : Int) / 64) = ((z ^^^ (z / 64) : Nat) : Int) := by
    rw [← i64_xor_nat z (z / 64) (by omega) (by omega)]; rfl
  rw [e]
  exact ⟨Int.tmod_nonneg _ (by omega), Int.tmod_lt_of_pos _ (by omega)⟩
theorem sums (x y : Int) (p len : Nat) (x0 : 0 ≤ x) (x1 : x ≤ 255) (y0 : 0 ≤ y) (y1 : y ≤ 255) (hp : p ≤ 1000000000) :
    ∃ z : Nat, IntKind.i64.wrap (IntKind.i64.wrap (IntKind.i64.wrap (IntKind.i64.wrap (IntKind.i64.wrap x * 131) + IntKind.i64.wrap (IntKind.i64.wrap y * 1117)) + IntKind.i64.wrap ((p : Int) * 29)) + IntKind.i64.wrap (IntKind.i64.wrap ((p : Int) / len) * 53)) = (z : Int) ∧ z ≤ 1000000000000 := by
  have hq : (p : Int) / len ≤ p := Int.ediv_le_self _ (by omega)
  have hq0 : 0 ≤ (p : Int) / len := Int.ediv_nonneg (by omega) (by omega)
  generalize (p : Int) / len = q at *
  rw [IntWalk.i64_in x (by omega), IntWalk.i64_in y (by omega), IntWalk.i64_in q (by omega), IntWalk.i64_in (x * 131) (by omega), IntWalk.i64_in (y * 1117) (by omega), IntWalk.i64_in ((p : Int) * 29) (by omega), IntWalk.i64_in (q * 53) (by omega), IntWalk.i64_in (x * 131 + y * 1117) (by omega), IntWalk.i64_in (x * 131 + y * 1117 + (p : Int) * 29) (by omega), IntWalk.i64_in _ (by omega)]
  exact ⟨(x * 131 + y * 1117 + (p : Int) * 29 + q * 53).toNat, by omega, by omega⟩

set_option maxRecDepth 100000 in
theorem pick_past (R D off len cap : Nat) (p : Nat) (n x y : Int) (w : World) (hp : p ≤ 1000000000) (h0 : w.cell? ⟨R, 0, none⟩ = some (.slice (some ⟨D, off, none⟩) len cap)) (h1 : w.cell? ⟨R, 1, none⟩ = some (.int .i64 p)) (hf : w.frozen? ⟨R, 1, none⟩ = false) (hn : 1 ≤ n) (hn' : n ≤ 1000000)
    (hl : len ≤ 2000) (hl0 : 0 < len) (hpl : len ≤ p) (hD : D ≠ R)
    (hx : w.cell? ⟨D, off + ((p : Int).tmod len).toNat, none⟩ = some (.int .u8 x)) (x0 : 0 ≤ x) (x1 : x ≤ 255)
    (hy : w.cell? ⟨D, off + (((p : Int) * 7 + 3).tmod len).toNat, none⟩ = some (.int .u8 y)) (y0 : 0 ≤ y) (y1 : y ≤ 255) :
    Calls Try.prog 60 #[.pointer (some ⟨R, 0, none⟩), .int .i64 n] w fun e w' => ∃ m : Int, 0 ≤ m ∧ m < n ∧ e = .returned (.int .i64 m) ∧ ∃ j, w' = (w.setCell ⟨R, 1, none⟩ (.int .i64 ((p : Int) + 1))).drewN j := by
  have e1 : ((len : Int) == 0) = false := by simp; omega
  have e2 : (n == 0) = false := by simp; omega
  have e3 : (len == 0) = false := by simp; omega
  have e4 : ¬ len = 0 := by omega
  have i0 : 0 ≤ (p : Int).tmod len := Int.tmod_nonneg _ (by omega)
  have i1 : (p : Int).tmod len < len := Int.tmod_lt_of_pos _ (by omega)
  have hq : IntKind.i64.wrap (IntKind.i64.wrap ((p : Int) * 7) + 3) = (p : Int) * 7 + 3 := by rw [IntWalk.i64_in ((p : Int) * 7) (by omega), IntWalk.i64_in _ (by omega)]
  have j0 : 0 ≤ (IntKind.i64.wrap (IntKind.i64.wrap ((p : Int) * 7) + 3)).tmod len := by rw [hq]; exact Int.tmod_nonneg _ (by omega)
  have j1 : (IntKind.i64.wrap (IntKind.i64.wrap ((p : Int) * 7) + 3)).tmod len < len := by rw [hq]; exact Int.tmod_lt_of_pos _ (by omega)
  rw [← hq] at hy
  clear hq
  have hE := Lib.hid (sums x y p len x0 x1 y0 y1 hp)
  go_enter Try.func60, Try.ntmps60
  go_upto_region 7 with fail
  go_cut [6] (fun s6 wx => ∃ z j : Nat, s6 = .int .i64 z ∧ z ≤ 1000000000000 ∧ wx = (w.setCell ⟨R, 1, none⟩ (.int .i64 ((p : Int) + 1))).drewN j)
  case first =>
    go_quiet (fail)
    go_wp2_with fail
    go_meet
    obtain ⟨z, hz, hz'⟩ := hE.out
    exact ⟨z, _, by rw [hz], hz', rfl⟩
  case rest =>
    obtain ⟨z, j, rfl, hz, rfl⟩ := hcut
    have hm := Lib.hid (mixed z n hz hn)
    go_wp2_with fail
    go_ret
    exact ⟨_, hm.out.1, hm.out.2, rfl, j, rfl⟩
end Go.Proofs.Ytgncjpakclbegaa
namespace Go.Proofs.Ytgncjpakclbegaa
open Go.RowKit
set_option linter.unusedVariables false

/-- the bytes that a slice value holds, in a block before R -/
def Bts (w : World) (R : Nat) (v : Value) : Prop :=
  (∃ (a : Option Addr) (c : Nat), v = .slice a 0 c) ∨
  ∃ (D off len cap : Nat) (f : Nat → Int), v = .slice (some ⟨D, off, none⟩) len cap ∧ 0 < len ∧ len ≤ 2000 ∧ D < R ∧ ∀ j, j < len → w.cell? ⟨D, off + j, none⟩ = some (.int .u8 (f j)) ∧ 0 ≤ f j ∧ f j ≤ 255
/-- a reader in block R that has read at most k numbers -/
def Rdr (k : Nat) (w : World) (R : Nat) : Prop :=
  ∃ (p : Nat) (v : Value), p ≤ k ∧ w.heap[R]? = some (.cells #[v, .int .i64 p] 98 (0, 0)) ∧ Bts w R v
def PickPost (k R : Nat) (n : Int) (w : World) (e : Ending) (w' : World) : Prop :=
  ∃ m : Int, 0 ≤ m ∧ m < n ∧ e = .returned (.int .i64 m) ∧ Rdr (k + 1) w' R ∧ w.grownBy w' (some R) ∧ w'.heap.size = w.heap.size

theorem rdr_lt {k R : Nat} {w : World} (h : Rdr k w R) : R < w.heap.size := by
  obtain ⟨p, v, _, hb, _⟩ := h
  exact (Array.getElem?_eq_some_iff.1 hb).1
theorem bts_below {R : Nat} {w w' : World} {v : Value} (h : Bts w R v) (hb : Below R w w') : Bts w' R v := by
  rcases h with ⟨a, c, rfl⟩ | ⟨D, off, len, cap, f, rfl, h1, h2, h3, h4⟩
  · exact .inl ⟨a, c, rfl⟩
  · refine .inr ⟨D, off, len, cap, f, rfl, h1, h2, h3, fun j hj => ?_⟩
    rw [hb.cell (p := ⟨D, off + j, none⟩) h3]
    exact h4 j hj
theorem rdr_below {k R : Nat} {w w' : World} (h : Rdr k w R) (hb : Below (R + 1) w w') : Rdr k w' R := by
  obtain ⟨p, v, hp, hc, hv⟩ := h
  exact ⟨p, v, hp, by rw [hb.block R (by omega)]; exact hc, bts_below hv (hb.mono (by omega))⟩
theorem rdr_mono {k k' R : Nat} {w : World} (h : Rdr k w R) (hk : k ≤ k') : Rdr k' w R := by
  obtain ⟨p, v, hp, hc, hv⟩ := h
  exact ⟨p, v, by omega, hc, hv⟩
theorem rdr_alloc {k R : Nat} {w : World} (h : Rdr k w R) (o : Obj) : Rdr k (w.alloc o) R :=
  rdr_below h ((Below.refl _ _).alloc (by have := rdr_lt h; omega) _)
theorem rdr_drewN {k R : Nat} {w : World} (h : Rdr k w R) (n : Nat) : Rdr k (w.drewN n) R := h
theorem rdr_drew {k R : Nat} {w : World} (h : Rdr k w R) : Rdr k w.drew R := h
theorem rdr_setCell {k R : Nat} {w : World} (h : Rdr k w R) {a : Addr} (ha : R < a.block) (v : Value) : Rdr k (w.setCell a v) R :=
  rdr_below h ((Below.refl _ _).setCell (by omega) _)
theorem rdr_chain {k R : Nat} {w w' : World} (h : Rdr k w R) (hb : Below w.heap.size w w') : Rdr k w' R :=
  rdr_below h (hb.mono (by have := rdr_lt h; omega))

theorem gb_refl (w : World) (r : Option Nat) : w.grownBy w r := ⟨rfl, rfl, rfl, Nat.le_refl _, fun _ _ _ => rfl⟩
theorem gb_drewN {a w : World} {row : Option Nat} (h : a.grownBy w row) (n : Nat) : a.grownBy (w.drewN n) row := ⟨h.os, h.tape, h.output, h.size, h.block⟩
theorem gb_drew {a w : World} {row : Option Nat} (h : a.grownBy w row) : a.grownBy w.drew row := ⟨h.os, h.tape, h.output, h.size, h.block⟩
theorem gb_alloc {a w : World} {row : Option Nat} (h : a.grownBy w row) (o : Obj) : a.grownBy (w.alloc o) row :=
  ⟨h.os, h.tape, h.output, Nat.le_trans h.size (by simp), fun i hi hne => (Below.heap_alloc w o i (Nat.lt_of_lt_of_le hi h.size)).trans (h.block i hi hne)⟩
theorem gb_setCell {a w : World} {g : Nat} (h : a.grownBy w (some g)) {p : Addr} (hp : p.block = g ∨ a.heap.size ≤ p.block) (u : Value) : a.grownBy (w.setCell p u) (some g) :=
  ⟨h.os, h.tape, h.output, by simpa [World.setCell] using h.size, fun i hi hne => (Below.heap_setCell w p u i (by
    rintro rfl
    rcases hp with hp | hp
    · exact hne (by rw [hp])
    · omega)).trans (h.block i hi hne)⟩
theorem gb_new {a w : World} {g : Nat} (h : a.grownBy w (some g)) {p : Addr} (hp : a.heap.size ≤ p.block) (u : Value) : a.grownBy (w.setCell p u) (some g) := gb_setCell h (.inr hp) u
theorem gb_below {a w w' : World} {row : Option Nat} (h : a.grownBy w row) (hb : Below w.heap.size w w') : a.grownBy w' row :=
  ⟨hb.os.trans h.os, hb.tape.trans h.tape, hb.output.trans h.output, Nat.le_trans h.size hb.size, fun i hi hne => (hb.block i (Nat.lt_of_lt_of_le hi h.size)).trans (h.block i hi hne)⟩
theorem gb_trans {a b c : World} {row : Option Nat} (h : a.grownBy b row) (k : b.grownBy c row) : a.grownBy c row :=
  ⟨k.os.trans h.os, k.tape.trans h.tape, k.output.trans h.output, Nat.le_trans h.size k.size, fun i hi hne => (k.block i (Nat.lt_of_lt_of_le hi h.size) hne).trans (h.block i hi hne)⟩
/-- a change on a new block alone is none below -/
theorem below_gb {B g : Nat} {a w w' : World} (h : Below B a w) (hg : w.grownBy w' (some g)) (hB : B ≤ g) (hs : B ≤ w.heap.size) : Below B a w' :=
  ⟨hg.os.trans h.os, hg.tape.trans h.tape, hg.output.trans h.output, Nat.le_trans h.size hg.size, fun i hi => (hg.block i (Nat.lt_of_lt_of_le hi hs) (by simp; omega)).trans (h.block i hi)⟩
theorem gcell {w w' : World} {g : Nat} (hg : w.grownBy w' (some g)) : (∀ b o, b < w.heap.size → b ≠ g → w'.cell? ⟨b, o, none⟩ = w.cell? ⟨b, o, none⟩) ∧ (∀ b o, b < w.heap.size → b ≠ g → w'.frozen? ⟨b, o, none⟩ = w.frozen? ⟨b, o, none⟩) :=
  ⟨fun b o h hn => World.cell?_of_block (a := ⟨b, o, none⟩) (hg.block b h (by simpa using hn)), fun b o h hn => World.frozen?_of_block (a := ⟨b, o, none⟩) (hg.block b h (by simpa using hn))⟩

theorem rdr_step {k R p j : Nat} {w : World} {v : Value} (hp : p ≤ k) (hc : w.heap[R]? = some (.cells #[v, .int .i64 p] 98 (0, 0))) (hv : Bts w R v) :
    Rdr (k + 1) ((w.setCell ⟨R, 1, none⟩ (.int .i64 ((p : Int) + 1))).drewN j) R ∧ w.grownBy ((w.setCell ⟨R, 1, none⟩ (.int .i64 ((p : Int) + 1))).drewN j) (some R) ∧ ((w.setCell ⟨R, 1, none⟩ (.int .i64 ((p : Int) + 1))).drewN j).heap.size = w.heap.size := by
  have hb : Below R w (w.setCell ⟨R, 1, none⟩ (.int .i64 ((p : Int) + 1))) := (Below.refl R w).setCell (p := ⟨R, 1, none⟩) (Nat.le_refl R) _
  refine ⟨⟨p + 1, v, by omega, ?_, bts_below hv (below_drewN hb _)⟩, gb_drewN (gb_setCell (gb_refl _ _) (.inl rfl) _) _, by simp [World.setCell]⟩
  show (w.setCell ⟨R, 1, none⟩ (.int .i64 ((p : Int) + 1))).heap[R]? = _
  rw [Joins.block_setCell hc]
  simp

theorem pick_any (k R : Nat) (n : Int) (w : World) (h : Rdr k w R) (hk : k ≤ 1000000000) (hn : 1 ≤ n) (hn' : n ≤ 1000000) :
    Calls Try.prog 60 #[.pointer (some ⟨R, 0, none⟩), .int .i64 n] w (PickPost k R n w) := by
  obtain ⟨p, v, hp, hc, hv⟩ := h
  have c0 : w.cell? ⟨R, 0, none⟩ = some v := by simp [World.cell?, hc]
  have c1 : w.cell? ⟨R, 1, none⟩ = some (.int .i64 p) := by simp [World.cell?, hc]
  have cf : w.frozen? ⟨R, 1, none⟩ = false := by simp [World.frozen?, hc]
  have hst := fun j => rdr_step (j := j) hp hc hv
  rcases hv with ⟨a, c, rfl⟩ | ⟨D, off, len, cap, f, rfl, h1, h2, h3, h4⟩
  · exact (pick_none R p n a c w (by omega) c0 c1 cf hn hn').mono fun e w' ⟨he, hw⟩ => ⟨0, by omega, by omega, he, by rw [hw]; exact hst 0⟩
  · by_cases hl : p < len
    · obtain ⟨hx, x0, x1⟩ := h4 p hl
      exact (pick_code R D off len cap p n (f p) w (by omega) c0 c1 cf hn hn' h2 hl (by omega) hx x0 x1).mono fun e w' ⟨he, hw⟩ => ⟨f p % n, Int.emod_nonneg _ (by omega), Int.emod_lt_of_pos _ (by omega), he, by rw [hw]; exact hst 0⟩
    · have q0 : 0 ≤ (p : Int).tmod len := Int.tmod_nonneg _ (by omega)
      have q1 : (p : Int).tmod len < len := Int.tmod_lt_of_pos _ (by omega)
      have q2 : 0 ≤ ((p : Int) * 7 + 3).tmod len := Int.tmod_nonneg _ (by omega)
      have q3 : ((p : Int) * 7 + 3).tmod len < len := Int.tmod_lt_of_pos _ (by omega)
      obtain ⟨hx, x0, x1⟩ := h4 ((p : Int).tmod len).toNat (by omega)
      obtain ⟨hy, y0, y1⟩ := h4 (((p : Int) * 7 + 3).tmod len).toNat (by omega)
      exact (pick_past R D off len cap p n _ _ w (by omega) c0 c1 cf hn hn' h2 h1 (by omega) (by omega) hx x0 x1 hy y0 y1).mono fun e w' ⟨m, m0, m1, he, j, hw⟩ => ⟨m, m0, m1, he, by rw [hw]; exact hst j⟩

/-- what a law's code is: no bytes, or bytes in memory that is there -/
def Code' (w : World) (v : Value) : Prop :=
  (∃ (a : Option Addr) (c : Nat), v = .slice a 0 c) ∨
  ∃ (D off len cap : Nat) (f : Nat → Int), v = .slice (some ⟨D, off, none⟩) len cap ∧ 0 < len ∧ len ≤ cap ∧ len ≤ 1048576 ∧ D < w.heap.size ∧ ∀ j, j < len → w.cell? ⟨D, off + j, none⟩ = some (.int .u8 (f j)) ∧ 0 ≤ f j ∧ f j ≤ 255
def OpenPost (w : World) (e : Ending) (w' : World) : Prop :=
  e = .returned (.pointer (some ⟨w.heap.size, 0, none⟩)) ∧ Rdr 0 w' w.heap.size ∧ Below w.heap.size w w' ∧ w'.heap.size = w.heap.size + 1

theorem open_world {w : World} {v : Value} (hv : Bts w w.heap.size v) :
    Rdr 0 (w.alloc (.cells #[v, .int .i64 0] 98)) w.heap.size ∧ Below w.heap.size w (w.alloc (.cells #[v, .int .i64 0] 98)) ∧ (w.alloc (.cells #[v, .int .i64 0] 98)).heap.size = w.heap.size + 1 := by
  have hb : Below w.heap.size w (w.alloc (.cells #[v, .int .i64 0] 98)) := (Below.refl _ _).alloc (Nat.le_refl _) _
  refine ⟨⟨0, v, by omega, ?_, bts_below hv hb⟩, hb, by simp⟩
  show (w.heap.push _)[w.heap.size]? = _
  simp

theorem open_none (a : Option Addr) (c : Nat) (w : World) :
    Calls Try.prog 58 #[.slice a 0 c] w (OpenPost w) := by
  have hw := Lib.hid (open_world (w := w) (v := .slice a 0 c) (.inl ⟨a, c, rfl⟩))
  go_enter Try.func58, Try.ntmps58
  go_wp2
  go_ret
  exact ⟨rfl, hw.out⟩
theorem open_short (D off len cap : Nat) (f : Nat → Int) (w : World) (h0 : 0 < len) (h1 : len ≤ 2000) (hD : D < w.heap.size) (hf : ∀ j, j < len → w.cell? ⟨D, off + j, none⟩ = some (.int .u8 (f j)) ∧ 0 ≤ f j ∧ f j ≤ 255) :
    Calls Try.prog 58 #[.slice (some ⟨D, off, none⟩) len cap] w (OpenPost w) := by
  have hw := Lib.hid (open_world (w := w) (v := .slice (some ⟨D, off, none⟩) len cap) (.inr ⟨D, off, len, cap, f, rfl, h0, h1, hD, hf⟩))
  clear hf
  have h2 : ¬ (2000 : Int) < (len : Int) := by omega
  go_enter Try.func58, Try.ntmps58
  go_wp2
  go_ret
  exact ⟨rfl, hw.out⟩
theorem open_long (D off len cap : Nat) (f : Nat → Int) (w : World) (h1 : 2000 < len) (hc : len ≤ cap) (hm : len ≤ 1048576) (hD : D < w.heap.size) (hf : ∀ j, j < len → w.cell? ⟨D, off + j, none⟩ = some (.int .u8 (f j)) ∧ 0 ≤ f j ∧ f j ≤ 255) :
    Calls Try.prog 58 #[.slice (some ⟨D, off, none⟩) len cap] w (OpenPost w) := by
  have hw := Lib.hid (open_world (w := w) (v := .slice (some ⟨D, off, none⟩) 2000 cap) (.inr ⟨D, off, 2000, cap, f, rfl, by omega, by omega, hD, fun j hj => hf j (by omega)⟩))
  clear hf
  have h2 : (2000 : Int) < (len : Int) := by omega
  have h3 : (2000 : Int) ≤ (cap : Int) := by omega
  go_enter Try.func58, Try.ntmps58
  go_wp2
  go_ret
  exact ⟨rfl, hw.out⟩

theorem open_any (v : Value) (w : World) (h : Hid (Code' w v)) :
    Calls Try.prog 58 #[v] w (OpenPost w) := by
  rcases h.out with ⟨a, c, rfl⟩ | ⟨D, off, len, cap, f, rfl, h1, h2, h3, h4, h5⟩
  · exact open_none a c w
  · by_cases hl : len ≤ 2000
    · exact open_short D off len cap f w h1 hl h4 h5
    · exact open_long D off len cap f w (by omega) h2 h3 h4 h5
end Go.Proofs.Ytgncjpakclbegaa
namespace Go.Proofs.Ytgncjpakclbegaa
open Go.RowKit
set_option linter.unusedVariables false

theorem gen_world {P : Program} {c : Code} {Q : Exit → Act → World → Prop} {a : Act} {W : World} (p : World → Prop) (h : p W) (k : ∀ W', p W' → c.wp P Q a W') : c.wp P Q a W := k W h
theorem four_cells (w : World) (a b c d : Int) (t : TypeId) : ∀ (j : Nat) (y : Int), [a, b, c, d][j]? = some y → (w.alloc (.cells #[.int .i64 a, .int .i64 b, .int .i64 c, .int .i64 d] t)).cell? ((⟨w.heap.size, 0, none⟩ : Addr).add j) = some (.int .i64 y) := by
  intro j y h
  rw [Go.WideShapes.add_plain]
  match j, h with
  | 0, h => simp at h; subst h; simp
  | 1, h => simp at h; subst h; simp
  | 2, h => simp at h; subst h; simp
  | 3, h => simp at h; subst h; simp
theorem flat_snoc (rs : List Rn) (a b c d : Int) : flat rs ++ [a, b, c, d] = flat (rs ++ [⟨a, b, c, d⟩]) := by rw [flat_append]; rfl
def Small (rs : List Rn) : Prop := ∀ r ∈ rs, -30 ≤ r.s ∧ r.s ≤ 30
theorem Small.nil : Small [] := fun _ h => by simp at h
theorem Small.snoc {rs : List Rn} (h : Small rs) {a b c d : Int} (h1 : -30 ≤ c) (h2 : c ≤ 30) : Small (rs ++ [⟨a, b, c, d⟩]) := fun r hr => by
  rcases List.mem_append.1 hr with hr | hr
  · exact h r hr
  · simp at hr; subst hr; exact ⟨h1, h2⟩
theorem Small.set {rs : List Rn} (h : Small rs) {k : Nat} {r : Rn} (h1 : -30 ≤ r.s) (h2 : r.s ≤ 30) : Small (rs.set k r) := fun r' hr => by
  rcases List.mem_or_eq_of_mem_set hr with hr | rfl
  · exact h r' hr
  · exact ⟨h1, h2⟩
/-- a list of the call's own, beside the reader's block -/
theorem gb_own {a w w' : World} {R g : Nat} (h : a.grownBy w (some R)) (hg : w.grownBy w' (some g)) (hn : a.heap.size ≤ g) : a.grownBy w' (some R) :=
  ⟨hg.os.trans h.os, hg.tape.trans h.tape, hg.output.trans h.output, Nat.le_trans h.size hg.size, fun i hi hne => (hg.block i (Nat.lt_of_lt_of_le hi h.size) (by simp; omega)).trans (h.block i hi hne)⟩
theorem rdr_own {k R g : Nat} {w w' : World} (h : Rdr k w R) (hg : w.grownBy w' (some g)) (hn : R < g) : Rdr k w' R :=
  rdr_below h ⟨hg.os, hg.tape, hg.output, hg.size, fun i hi => hg.block i (by have := rdr_lt h; omega) (by simp; omega)⟩
section
variable {w0 w w' : World} {R g cap k : Nat} {rs : List Rn}
theorem rdr_set4 (h : Rdr k w R) (hg : R < g) (i a b c d : Nat) (x y z t : Value) :
    Rdr k ((((w.setCell ⟨g, a, none⟩ x).setCell ⟨g, b, none⟩ y).setCell ⟨g, c, none⟩ z).setCell ⟨g, d, none⟩ t) R :=
  rdr_setCell (rdr_setCell (rdr_setCell (rdr_setCell h hg _) hg _) hg _) hg _
theorem flat_any (j : Nat) (z : Int) (hj : j < 4) : ∀ rs : List Rn, 0 < rs.length → ∃ rs' : List Rn, rs'.length = rs.length ∧ flat rs' = (flat rs).set j z
  | [], h => by simp at h
  | r :: rs, _ => by
    match j, hj with
    | 0, _ => exact ⟨⟨z, r.t, r.s, r.g⟩ :: rs, rfl, rfl⟩
    | 1, _ => exact ⟨⟨r.f, z, r.s, r.g⟩ :: rs, rfl, rfl⟩
    | 2, _ => exact ⟨⟨r.f, r.t, z, r.g⟩ :: rs, rfl, rfl⟩
    | 3, _ => exact ⟨⟨r.f, r.t, r.s, z⟩ :: rs, rfl, rfl⟩
theorem two_at (m : Int) (h0 : 0 ≤ m) (h1 : m < 2) (a b : Int) : ∃ z : Int, (#[Value.int .i64 a, Value.int .i64 b] : Array Value)[m.toNat]? = some (.int .i64 z) := by
  have : m = 0 ∨ m = 1 := by omega
  rcases this with rfl | rfl
  · exact ⟨a, rfl⟩
  · exact ⟨b, rfl⟩
end
end Go.Proofs.Ytgncjpakclbegaa
