/-
  A list of points in a slice; a polygon in memory: a ring of corners, each a point and the address of the next one. No function of the program is named.
-/
import Derived.Test.YtegcjdcinebleaaYm
import Derived.Test.YtegcjdcinebleaaZa
import Derived.LaidEqlPtr
import Derived.Below
namespace Go.Proofs.Ytegcjdcinebleaa
open Go.RowKit
set_option linter.unusedVariables false

/-- a slice of points is read at an index -/
theorem Ints.pt {w : World} {p : Option Addr} {L : List Poly.P2} (h : Ints w p (Poly.fl L)) {i : Nat} (hi : i < L.length) :
    ∃ B o, p = some ⟨B, o, none⟩ ∧ B < w.heap.size ∧ w.cell? ⟨B, o + i * 2, none⟩ = some (.int .i64 (Poly.cy L i).1) ∧ w.cell? ⟨B, o + i * 2 + 1, none⟩ = some (.int .i64 (Poly.cy L i).2) := by
  have hp := Poly.cy_lt hi
  have hf := Poly.fl_at hp
  have h0 : i * 2 < (Poly.fl L).length := by rw [Poly.fl_len]; omega
  have h1 : i * 2 + 1 < (Poly.fl L).length := by rw [Poly.fl_len]; omega
  obtain ⟨B, o, z, rfl, hz, hB, hc⟩ := h.at h0
  obtain ⟨B', o', z', e, hz', hB', hc'⟩ := h.at h1
  cases e
  rw [hf.1] at hz
  rw [hf.2] at hz'
  cases hz
  cases hz'
  exact ⟨B, o, rfl, hB, hc, by rw [Nat.add_assoc]; exact hc'⟩

/-- a corner in a block: its point, and the block of the next one -/
def CornerAt (w : World) (B : Nat) (p : Poly.P2) (N : Nat) : Prop := w.cell? ⟨B, 0, none⟩ = some (.int .i64 p.1) ∧ w.cell? ⟨B, 1, none⟩ = some (.int .i64 p.2) ∧ w.cell? ⟨B, 2, none⟩ = some (.pointer (some ⟨N, 0, none⟩))
theorem CornerAt.below {n₀ : Nat} {w w' : World} {B N : Nat} {p : Poly.P2} (h : CornerAt w B p N) (hb : Below n₀ w w') (hB : B < n₀) : CornerAt w' B p N :=
  ⟨(hb.cell (p := ⟨B, 0, none⟩) hB).trans h.1, (hb.cell (p := ⟨B, 1, none⟩) hB).trans h.2.1, (hb.cell (p := ⟨B, 2, none⟩) hB).trans h.2.2⟩
/-- a ring of corners, counted round and round, in blocks below n₀ -/
structure Ring (n₀ : Nat) (A : Nat → Nat) (L : List Poly.P2) (w : World) : Prop where
  lt : ∀ k, A k < n₀
  at' : ∀ k, CornerAt w (A k) (Poly.cy L k) (A (k + 1))
  per : ∀ k, A (k + L.length) = A k
  inj : ∀ i j, A i = A j → i % L.length = j % L.length
theorem Ring.below {n₀ : Nat} {A : Nat → Nat} {L : List Poly.P2} {w w' : World} (h : Ring n₀ A L w) (hb : Below n₀ w w') : Ring n₀ A L w' :=
  ⟨h.lt, fun k => (h.at' k).below hb (h.lt k), h.per, h.inj⟩
theorem Ring.mul {n₀ : Nat} {A : Nat → Nat} {L : List Poly.P2} {w : World} (h : Ring n₀ A L w) (k : Nat) : ∀ q, A (k + L.length * q) = A k
  | 0 => rfl
  | q + 1 => by rw [Nat.mul_add, Nat.mul_one, ← Nat.add_assoc, h.per, h.mul k q]
theorem Ring.mod {n₀ : Nat} {A : Nat → Nat} {L : List Poly.P2} {w : World} (h : Ring n₀ A L w) (k : Nat) : A (k % L.length) = A k := by
  have := h.mul (k % L.length) (k / L.length)
  rw [Nat.mod_add_div] at this
  exact this.symm
theorem Ring.iff {n₀ : Nat} {A : Nat → Nat} {L : List Poly.P2} {w : World} (h : Ring n₀ A L w) (i j : Nat) : A i = A j ↔ i % L.length = j % L.length :=
  ⟨h.inj i j, fun e => by rw [← h.mod i, ← h.mod j, e]⟩
theorem Ring.same {n₀ : Nat} {A : Nat → Nat} {L : List Poly.P2} {w W : World} (h : Ring n₀ A L w) (hc : ∀ b o, W.cell? ⟨b, o, none⟩ = w.cell? ⟨b, o, none⟩) : Ring n₀ A L W :=
  ⟨h.lt, fun k => ⟨(hc _ _).trans (h.at' k).1, (hc _ _).trans (h.at' k).2.1, (hc _ _).trans (h.at' k).2.2⟩, h.per, h.inj⟩
theorem Ring.ext {n₀ : Nat} {A : Nat → Nat} {L : List Poly.P2} {w W : World} (h : Ring n₀ A L w) (hn : n₀ ≤ w.heap.size) (hc : ∀ b o, W.cell? ⟨b, o, none⟩ = w.cell? ⟨b, o, none⟩) (hs : W.heap.size = w.heap.size) (d : Ext W) : Ring n₀ A L d.now ∧ n₀ ≤ d.now.heap.size :=
  ⟨(h.same hc).below (d.grown.mono (by omega)), by have := d.grown.size; omega⟩
/-- the ring with its blocks: addresses can be compared -/
structure RingB (n₀ : Nat) (A : Nat → Nat) (L : List Poly.P2) (w : World) : Prop where
  ring : Ring n₀ A L w
  blk : ∀ k, w.heap[A k]? = some (.cells #[.int .i64 (Poly.cy L k).1, .int .i64 (Poly.cy L k).2, .pointer (some ⟨A (k + 1), 0, none⟩)] 111 (0, 0))
theorem RingB.below {n₀ : Nat} {A : Nat → Nat} {L : List Poly.P2} {w w' : World} (h : RingB n₀ A L w) (hb : Below n₀ w w') : RingB n₀ A L w' :=
  ⟨h.ring.below hb, fun k => (hb.block _ (h.ring.lt k)).trans (h.blk k)⟩
theorem RingB.of {n₀ : Nat} {A : Nat → Nat} {L : List Poly.P2} {w : World} (lt : ∀ k, A k < n₀) (blk : ∀ k, w.heap[A k]? = some (.cells #[.int .i64 (Poly.cy L k).1, .int .i64 (Poly.cy L k).2, .pointer (some ⟨A (k + 1), 0, none⟩)] 111 (0, 0)))
    (per : ∀ k, A (k + L.length) = A k) (inj : ∀ i j, A i = A j → i % L.length = j % L.length) : RingB n₀ A L w :=
  ⟨⟨lt, fun k => ⟨by simp [World.cell?, blk k], by simp [World.cell?, blk k], by simp [World.cell?, blk k]⟩, per, inj⟩, blk⟩
theorem info_corner : (Try.prog.info? 111).map (fun i => i.size) = some 3 := by kernel_rfl
theorem RingB.eql {n₀ : Nat} {A : Nat → Nat} {L : List Poly.P2} {w : World} (h : RingB n₀ A L w) (i j : Nat) {b : Bool} (hb : decide (i % L.length = j % L.length) = b) :
    (binOp .eql 67 (.pointer (some ⟨A i, 0, none⟩)) (.pointer (some ⟨A j, 0, none⟩))).run Try.prog w = .ok (.bool b) w := by
  obtain ⟨ti, hi, hs⟩ := Option.map_eq_some_iff.1 info_corner
  by_cases e : i % L.length = j % L.length
  · have hA : A i = A j := (h.ring.iff i j).2 e
    rw [← hb, decide_eq_true e, hA]
    exact run_eql_ptr_same w _ Try.underlying67 hi
  · have hA : ¬ A i = A j := fun k => e ((h.ring.iff i j).1 k)
    rw [← hb, decide_eq_false e]
    exact run_eql_ptr_other w Try.underlying67 hi (by rw [hs]; decide) (by simp [hA]) (h.blk i) (h.blk j)
theorem RingB.equal {n₀ : Nat} {A : Nat → Nat} {L : List Poly.P2} {w : World} (h : RingB n₀ A L w) (i j : Nat) :
    (Op.equal 67 (.pointer (some ⟨A i, 0, none⟩)) (.pointer (some ⟨A j, 0, none⟩))).run Try.prog w = .ok (decide (i % L.length = j % L.length)) w := by
  obtain ⟨ti, hi, hs⟩ := Option.map_eq_some_iff.1 info_corner
  have hu := Try.underlying67
  by_cases e : i % L.length = j % L.length
  · have hA : A i = A j := (h.ring.iff i j).2 e
    rw [decide_eq_true e, hA]
    have h : ∀ d : Nat, (Op.equalIn (d + 1) 67 (.pointer (some ⟨A j, 0, none⟩)) (.pointer (some ⟨A j, 0, none⟩))).run Try.prog w = .ok true w := fun d => by
      simp [Op.equalIn, run_underlying hu, sizeOf, typeInfo, hi, run_sameAddr_same]
    simp [Op.equal, Op.maxDepth, h 9999]
  · have hA : ¬ A i = A j := fun k => e ((h.ring.iff i j).1 k)
    rw [decide_eq_false e]
    have hne : (⟨A i, 0, none⟩ : Addr) ≠ ⟨A j, 0, none⟩ := by simp [hA]
    have hz : ti.size ≠ 0 := by rw [hs]; decide
    have b1 := h.blk i
    have b2 := h.blk j
    have h : ∀ d : Nat, (Op.equalIn (d + 1) 67 (.pointer (some ⟨A i, 0, none⟩)) (.pointer (some ⟨A j, 0, none⟩))).run Try.prog w = .ok false w := fun d => by
      simp [Op.equalIn, run_underlying hu, sizeOf, typeInfo, hi, hz, run_sameAddr_other w hne b1 b2]
    simp [Op.equal, Op.maxDepth, h 9999]
theorem RingB.neq {n₀ : Nat} {A : Nat → Nat} {L : List Poly.P2} {w : World} (h : RingB n₀ A L w) (i j : Nat) {b : Bool} (hb : decide (i % L.length = j % L.length) = !b) :
    (binOp .neq 67 (.pointer (some ⟨A i, 0, none⟩)) (.pointer (some ⟨A j, 0, none⟩))).run Try.prog w = .ok (.bool b) w := by
  have := h.equal i j
  rw [hb] at this
  simp only [binOp]
  simp [this]
/-- a store into a block that holds no corner -/
theorem RingB.put {n₀ g : Nat} {A : Nat → Nat} {L : List Poly.P2} {w : World} {q : Option Addr} (h : RingB n₀ A L w) (hg : w.cell? ⟨g, 0, none⟩ = some (.pointer q)) (v : Value) : RingB n₀ A L (w.setCell ⟨g, 0, none⟩ v) :=
  RingB.of h.ring.lt (fun k => by
    have hne : A k ≠ g := fun e => by
      have := (h.ring.at' k).1
      rw [e, hg] at this
      cases this
    exact (Below.heap_setCell w ⟨g, 0, none⟩ v (A k) hne).trans (h.blk k)) h.ring.per h.ring.inj
theorem RingB.up {n₀ m : Nat} {A : Nat → Nat} {L : List Poly.P2} {w : World} (h : RingB n₀ A L w) (hm : n₀ ≤ m) : RingB m A L w :=
  RingB.of (fun k => Nat.lt_of_lt_of_le (h.ring.lt k) hm) h.blk h.ring.per h.ring.inj
end Go.Proofs.Ytegcjdcinebleaa
