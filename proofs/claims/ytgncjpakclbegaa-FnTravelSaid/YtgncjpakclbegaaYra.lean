/-
  A list of points in a slice; a polygon in memory: a ring of corners, each a point and the address of the next one. No function of the program is named.
  How the laws hand points over and compare them.
  How the laws mark a list of points and look for their marks.
-/
import Derived.Test.YtgncjpakclbegaaYma
import Derived.Test.YtgncjpakclbegaaZa
import Derived.LaidEqlPtr
import Derived.Below
import Derived.Test.YtgncjpakclbegaaPl
import Derived.Deep.RegionHeld3
import Derived.Deep.DeepCutAuto
set_option linter.unusedSimpArgs false
set_option linter.unusedVariables false
namespace Go.Proofs.Ytgncjpakclbegaa
open Go.RowKit
set_option linter.unusedVariables false

/-- a slice of points is read at an index -/
theorem Ints.pt {w : World} {p : Option Addr} {L : List Poly.P2} (h : Ints w p (Poly.fl L)) {i : Nat} (hi : i < L.length) :
    ∃ B o, p = some ⟨B, o, none⟩ ∧ B < w.heap.size ∧ w.cell? ⟨B, o + i * 2, none⟩ = some (.int .i64 (Poly.cy L i).1) ∧ w.cell? ⟨B, o + i * 2 + 1, none⟩ = some (.int .i64 (Poly.cy L i).2) := by
  have hp := Poly.cy_lt hi
  have hf := Poly.fl_at hp
  have h0 : i * 2 < (Poly.fl L).length := by rw [Poly.fl_len]; omega
  have h1 : i * 2 + 1 < (Poly.fl L).length := by rw [Poly.fl_len]; omega
  obtain ⟨B, o, z, rfl, hz, hB, hc⟩ := h.at h0
  obtain ⟨B', o', z', e, hz', hB', hc'⟩ := h.at h1
  cases e
  rw [hf.1] at hz
  rw [hf.2] at hz'
  cases hz
  cases hz'
  exact ⟨B, o, rfl, hB, hc, by rw [Nat.add_assoc]; exact hc'⟩

/-- a corner in a block: its point, and the block of the next one -/
def CornerAt (w : World) (B : Nat) (p : Poly.P2) (N : Nat) : Prop := w.cell? ⟨B, 0, none⟩ = some (.int .i64 p.1) ∧ w.cell? ⟨B, 1, none⟩ = some (.int .i64 p.2) ∧ w.cell? ⟨B, 2, none⟩ = some (.pointer (some ⟨N, 0, none⟩))
theorem CornerAt.below {n₀ : Nat} {w w' : World} {B N : Nat} {p : Poly.P2} (h : CornerAt w B p N) (hb : Below n₀ w w') (hB : B < n₀) : CornerAt w' B p N :=
  ⟨(hb.cell (p := ⟨B, 0, none⟩) hB).trans h.1, (hb.cell (p := ⟨B, 1, none⟩) hB).trans h.2.1, (hb.cell (p := ⟨B, 2, none⟩) hB).trans h.2.2⟩
/-- a ring of corners, counted round and round, in blocks below n₀ -/
structure Ring (n₀ : Nat) (A : Nat → Nat) (L : List Poly.P2) (w : World) : Prop where
  lt : ∀ k, A k < n₀
  at' : ∀ k, CornerAt w (A k) (Poly.cy L k) (A (k + 1))
  per : ∀ k, A (k + L.length) = A k
  inj : ∀ i j, A i = A j → i % L.length = j % L.length
theorem Ring.below {n₀ : Nat} {A : Nat → Nat} {L : List Poly.P2} {w w' : World} (h : Ring n₀ A L w) (hb : Below n₀ w w') : Ring n₀ A L w' :=
  ⟨h.lt, fun k => (h.at' k).below hb (h.lt k), h.per, h.inj⟩
theorem Ring.mul {n₀ : Nat} {A : Nat → Nat} {L : List Poly.P2} {w : World} (h : Ring n₀ A L w) (k : Nat) : ∀ q, A (k + L.length * q) = A k
  | 0 => rfl
  | q + 1 => by rw [Nat.mul_add, Nat.mul_one, ← Nat.add_assoc, h.per, h.mul k q]
theorem Ring.mod {n₀ : Nat} {A : Nat → Nat} {L : List Poly.P2} {w : World} (h : Ring n₀ A L w) (k : Nat) : A (k % L.length) = A k := by
  have := h.mul (k % L.length) (k / L.length)
  rw [Nat.mod_add_div] at this
  exact this.symm
theorem Ring.iff {n₀ : Nat} {A : Nat → Nat} {L : List Poly.P2} {w : World} (h : Ring n₀ A L w) (i j : Nat) : A i = A j ↔ i % L.length = j % L.length :=
  ⟨h.inj i j, fun e => by rw [← h.mod i, ← h.mod j, e]⟩
theorem Ring.same {n₀ : Nat} {A : Nat → Nat} {L : List Poly.P2} {w W : World} (h : Ring n₀ A L w) (hc : ∀ b o, W.cell? ⟨b, o, none⟩ = w.cell? ⟨b, o, none⟩) : Ring n₀ A L W :=
  ⟨h.lt, fun k => ⟨(hc _ _).trans (h.at' k).1, (hc _ _).trans (h.at' k).2.1, (hc _ _).trans (h.at' k).2.2⟩, h.per, h.inj⟩
theorem Ring.ext {n₀ : Nat} {A : Nat → Nat} {L : List Poly.P2} {w W : World} (h : Ring n₀ A L w) (hn : n₀ ≤ w.heap.size) (hc : ∀ b o, W.cell? ⟨b, o, none⟩ = w.cell? ⟨b, o, none⟩) (hs : W.heap.size = w.heap.size) (d : Ext W) : Ring n₀ A L d.now ∧ n₀ ≤ d.now.heap.size :=
  ⟨(h.same hc).below (d.grown.mono (by omega)), by have := d.grown.size; omega⟩
/-- the ring with its blocks: addresses can be compared -/
structure RingB (n₀ : Nat) (A : Nat → Nat) (L : List Poly.P2) (w : World) : Prop where
  ring : Ring n₀ A L w
  blk : ∀ k, w.heap[A k]? = some (.cells #[.int .i64 (Poly.cy L k).1, .int .i64 (Poly.cy L k).2, .pointer (some ⟨A (k + 1), 0, none⟩)] 103 (0, 0))
theorem RingB.below {n₀ : Nat} {A : Nat → Nat} {L : List Poly.P2} {w w' : World} (h : RingB n₀ A L w) (hb : Below n₀ w w') : RingB n₀ A L w' :=
  ⟨h.ring.below hb, fun k => (hb.block _ (h.ring.lt k)).trans (h.blk k)⟩
theorem RingB.of {n₀ : Nat} {A : Nat → Nat} {L : List Poly.P2} {w : World} (lt : ∀ k, A k < n₀) (blk : ∀ k, w.heap[A k]? = some (.cells #[.int .i64 (Poly.cy L k).1, .int .i64 (Poly.cy L k).2, .pointer (some ⟨A (k + 1), 0, none⟩)] 103 (0, 0)))
    (per : ∀ k, A (k + L.length) = A k) (inj : ∀ i j, A i = A j → i % L.length = j % L.length) : RingB n₀ A L w :=
  ⟨⟨lt, fun k => ⟨by simp [World.cell?, blk k], by simp [World.cell?, blk k], by simp [World.cell?, blk k]⟩, per, inj⟩, blk⟩
theorem info_corner : (Try.prog.info? 103).map (fun i => i.size) = some 3 := by kernel_rfl
theorem RingB.eql {n₀ : Nat} {A : Nat → Nat} {L : List Poly.P2} {w : World} (h : RingB n₀ A L w) (i j : Nat) {b : Bool} (hb : decide (i % L.length = j % L.length) = b) :
    (binOp .eql 61 (.pointer (some ⟨A i, 0, none⟩)) (.pointer (some ⟨A j, 0, none⟩))).run Try.prog w = .ok (.bool b) w := by
  obtain ⟨ti, hi, hs⟩ := Option.map_eq_some_iff.1 info_corner
  by_cases e : i % L.length = j % L.length
  · have hA : A i = A j := (h.ring.iff i j).2 e
    rw [← hb, decide_eq_true e, hA]
    exact run_eql_ptr_same w _ Try.underlying61 hi
  · have hA : ¬ A i = A j := fun k => e ((h.ring.iff i j).1 k)
    rw [← hb, decide_eq_false e]
    exact run_eql_ptr_other w Try.underlying61 hi (by rw [hs]; decide) (by simp [hA]) (h.blk i) (h.blk j)
theorem RingB.equal {n₀ : Nat} {A : Nat → Nat} {L : List Poly.P2} {w : World} (h : RingB n₀ A L w) (i j : Nat) :
    (Op.equal 61 (.pointer (some ⟨A i, 0, none⟩)) (.pointer (some ⟨A j, 0, none⟩))).run Try.prog w = .ok (decide (i % L.length = j % L.length)) w := by
  obtain ⟨ti, hi, hs⟩ := Option.map_eq_some_iff.1 info_corner
  have hu := Try.underlying61
  by_cases e : i % L.length = j % L.length
  · have hA : A i = A j := (h.ring.iff i j).2 e
    rw [decide_eq_true e, hA]
    have h : ∀ d : Nat, (Op.equalIn (d + 1) 61 (.pointer (some ⟨A j, 0, none⟩)) (.pointer (some ⟨A j, 0, none⟩))).run Try.prog w = .ok true w := fun d => by
      simp [Op.equalIn, run_underlying hu, sizeOf, typeInfo, hi, run_sameAddr_same]
    simp [Op.equal, Op.maxDepth, h 9999]
  · have hA : ¬ A i = A j := fun k => e ((h.ring.iff i j).1 k)
    rw [decide_eq_false e]
    have hne : (⟨A i, 0, none⟩ : Addr) ≠ ⟨A j, 0, none⟩ := by simp [hA]
    have hz : ti.size ≠ 0 := by rw [hs]; decide
    have b1 := h.blk i
    have b2 := h.blk j
    have h : ∀ d : Nat, (Op.equalIn (d + 1) 61 (.pointer (some ⟨A i, 0, none⟩)) (.pointer (some ⟨A j, 0, none⟩))).run Try.prog w = .ok false w := fun d => by
      simp [Op.equalIn, run_underlying hu, sizeOf, typeInfo, hi, hz, run_sameAddr_other w hne b1 b2]
    simp [Op.equal, Op.maxDepth, h 9999]
theorem RingB.neq {n₀ : Nat} {A : Nat → Nat} {L : List Poly.P2} {w : World} (h : RingB n₀ A L w) (i j : Nat) {b : Bool} (hb : decide (i % L.length = j % L.length) = !b) :
    (binOp .neq 61 (.pointer (some ⟨A i, 0, none⟩)) (.pointer (some ⟨A j, 0, none⟩))).run Try.prog w = .ok (.bool b) w := by
  have := h.equal i j
  rw [hb] at this
  simp only [binOp]
  simp [this]
/-- a store into a block that holds no corner -/
theorem RingB.put {n₀ g : Nat} {A : Nat → Nat} {L : List Poly.P2} {w : World} {q : Option Addr} (h : RingB n₀ A L w) (hg : w.cell? ⟨g, 0, none⟩ = some (.pointer q)) (v : Value) : RingB n₀ A L (w.setCell ⟨g, 0, none⟩ v) :=
  RingB.of h.ring.lt (fun k => by
    have hne : A k ≠ g := fun e => by
      have := (h.ring.at' k).1
      rw [e, hg] at this
      cases this
    exact (Below.heap_setCell w ⟨g, 0, none⟩ v (A k) hne).trans (h.blk k)) h.ring.per h.ring.inj
theorem RingB.up {n₀ m : Nat} {A : Nat → Nat} {L : List Poly.P2} {w : World} (h : RingB n₀ A L w) (hm : n₀ ≤ m) : RingB m A L w :=
  RingB.of (fun k => Nat.lt_of_lt_of_le (h.ring.lt k) hm) h.blk h.ring.per h.ring.inj
end Go.Proofs.Ytgncjpakclbegaa
namespace Go.Proofs.Ytgncjpakclbegaa
open Go.RowKit Poly
set_option linter.unusedVariables false

/-- a list of points of which the first k are there -/
def fillP (k : Nat) (L : List P2) : List P2 := L.take k ++ List.replicate (L.length - k) (0, 0)
theorem fillP_zero (L : List P2) : fillP 0 L = List.replicate L.length (0, 0) := by simp [fillP]
theorem fillP_all (L : List P2) : fillP L.length L = L := by simp [fillP]
theorem fillP_len (k : Nat) (L : List P2) (h : k ≤ L.length) : (fillP k L).length = L.length := by simp [fillP]; omega
theorem fillP_set {k : Nat} {L : List P2} {r : P2} (h : L[k]? = some r) : (fillP k L).set k r = fillP (k + 1) L := by
  have hk := (List.getElem?_eq_some_iff.1 h).1
  have hr := (List.getElem?_eq_some_iff.1 h).2
  unfold fillP
  rw [List.set_append_right _ _ (by simp; omega), show k - (L.take k).length = 0 by simp; omega]
  obtain ⟨m, hm⟩ : ∃ m, L.length - k = m + 1 := ⟨L.length - k - 1, by omega⟩
  rw [hm, List.replicate_succ, List.set_cons_zero, List.take_add_one, h, show L.length - (k + 1) = m by omega]
  simp
theorem fl_zeros (n : Nat) : fl (List.replicate n (0, 0)) = List.replicate (n * 2) 0 := by
  induction n with
  | zero => rfl
  | succ n ih => rw [List.replicate_succ, show (n + 1) * 2 = n * 2 + 1 + 1 by omega, List.replicate_succ, List.replicate_succ]; simp [fl, ih]
theorem fl_set : ∀ {L : List P2} {i : Nat} (r : P2), i < L.length → fl (L.set i r) = ((fl L).set (i * 2) r.1).set (i * 2 + 1) r.2
  | [], i, r, h => by simp at h
  | q :: l, 0, r, h => by simp [fl]
  | q :: l, i + 1, r, h => by
    have := fl_set (L := l) (i := i) r (by simpa using h)
    have e : (i + 1) * 2 = i * 2 + 1 + 1 := by omega
    rw [e, show i * 2 + 1 + 1 + 1 = (i * 2 + 1) + 1 + 1 by omega]
    simp [fl, this]
theorem Own.setP {w : World} {g : Nat} {T : TypeId} {n cap : Nat} {L : List P2} (h : Own w g T 2 n cap (fl L)) {i : Nat} (hi : i < L.length) (r : P2) :
    Own ((w.setCell ⟨g, i * 2, none⟩ (.int .i64 r.1)).setCell ⟨g, i * 2 + 1, none⟩ (.int .i64 r.2)) g T 2 n cap (fl (L.set i r)) := by
  rw [fl_set r hi]
  have h1 := h.set (i * 2) r.1 (by rw [fl_len]; omega)
  exact h1.set (i * 2 + 1) r.2 (by rw [List.length_set, fl_len]; omega)
theorem Own.pts {w : World} {g : Nat} {T : TypeId} {n cap : Nat} {L : List P2} (h : Own w g T 2 n cap (fl L)) : Ints w (some ⟨g, 0, none⟩) (fl L) :=
  .inr ⟨g, 0, rfl, h.lt, fun i z hi => by rw [Nat.zero_add]; exact h.cells hi⟩
theorem info_point : (Try.prog.info? 31).map (fun i => (i.zero, i.size, i.bytes)) = some (some (.agg #[.int .i64 0, .int .i64 0]), 2, 16) := by kernel_rfl
theorem szPts (p : Option Addr) (len c : Nat) (w : World) (hl : len ≤ 9223372036854775807) :
    Calls Try.prog 48 #[.slice p len c, .int .i64 1048576] w fun e w' => e = .returned (.int .i64 (if 1048576 < (len : Int) then -1 else 1048576 - len)) ∧ w = w' := by
  by_cases h : 1048576 < (len : Int)
  · go_enter Try.func48, Try.ntmps48
    go_wp2_with fail
    go_ret
    exact ⟨by simp, rfl⟩
  · go_enter Try.func48, Try.ntmps48
    go_wp2_with fail
    go_ret
    exact ⟨by simp, rfl⟩
theorem made_pts (w : World) (n : Nat) (hn : n ≤ 1048576) : (Instr.makeSlice 23 (.int .i64 (n : Int)) (.int .i64 (n : Int))).run Try.prog w = .ok (.slice (some ⟨w.heap.size, 0, none⟩) n n) (w.alloc (.cells (madeCells (Array.replicate 2 (.int .i64 0)) (n * 2)) 31)) := by
  obtain ⟨i, hi, hzz⟩ := Option.map_eq_some_iff.1 info_point
  simp only [Prod.mk.injEq] at hzz
  obtain ⟨hz, hs, hb⟩ := hzz
  have := run_make (P := Try.prog) w 23 31 i _ Try.underlying23 hi hz .i64 .i64 n n (by omega) (Int.le_refl _) (by rw [hb]; omega) (by omega)
  simp only [Int.toNat_natCast, hs] at this
  exact this
set_option maxHeartbeats 2000000 in
theorem toPts (p : Option Addr) (c : Nat) (L : List P2) (w : World) (hp : Ints w p (fl L)) (hl : L.length ≤ 1048576) :
    Calls Try.prog 50 #[.slice p L.length c] w fun e w' => e = .returned (.slice (some ⟨w.heap.size, 0, none⟩) L.length L.length) ∧ Own w' w.heap.size 31 2 L.length L.length (fl L) ∧ Below w.heap.size w w' := by
  have H := Lib.hid hp
  have hm := fun w => made_pts w L.length hl
  have h0 : Own (w.alloc (.cells (madeCells (Array.replicate 2 (.int .i64 0)) (L.length * 2)) 31)) w.heap.size 31 2 L.length L.length (fl (fillP 0 L)) := by
    rw [fillP_zero, fl_zeros]
    exact Own.made w 31 L.length 2 (by decide) (by unfold maxLen; omega)
  have H0 := Lib.hid h0
  clear hp h0
  go_enter Try.func50, Try.ntmps50
  go_wp2_with fail
  clear hm
  go_loopw [4] (fun i wr => ∃ k : Nat, k ≤ L.length ∧ i = .int .i64 k ∧ Own wr w.heap.size 31 2 L.length L.length (fl (fillP k L)) ∧ Below w.heap.size w wr) (fun i _ => L.length - (intOf i).toNat)
  case atStart => exact ⟨0, Nat.zero_le _, rfl, by simpa using H0.out, (by repeat (first | assumption | exact Below.refl _ _ | (refine below_chain ?_ (by assumption) (by first | omega | (simp <;> omega) | simp)) | (refine Below.alloc ?_ (by first | omega | (simp <;> omega) | simp) _) | (apply below_drewN) | (apply below_drew) | (refine Below.setCell ?_ (by first | omega | (simp <;> omega) | simp) _)))⟩
  case round =>
    clear H0
    obtain ⟨k, hk, rfl, how, hbr⟩ := hrel
    have hbs := hbr.size
    have HO := Lib.hid how
    by_cases hlt : k < L.length
    · obtain ⟨B, o, rfl, hB, e0, e1⟩ := (H.out.below hbr).pt hlt
      have hf0 := how.frozen (k * 2)
      have hf1 := how.frozen (k * 2 + 1)
      have hlo := how.lt
      obtain ⟨r', hr'⟩ : ∃ r', (fillP k L)[k]? = some r' := ⟨_, List.getElem?_eq_getElem (by rw [fillP_len _ _ hk]; exact hlt)⟩
      have x0 := how.cells (fl_at hr').1
      have x1 := how.cells (fl_at hr').2
      clear how hr'
      go_wp2_with ((go_at_call 53; (with_reducible refine (toPoint_any _ _ _).mono ?_); rintro e wn ⟨rfl, hbn⟩; obtain ⟨hcn, hfn⟩ := bcell hbn; (try simp only [World.size_drew, World.cell?_drew, World.frozen?_drew, World.heap_drewN, World.cell?_drewN, World.frozen?_drewN] at hcn hfn); have hsz := hbn.size; (try simp at hsz); (try have hsl := Nat.lt_of_succ_le hsz); (try have hz0 : w.heap.size < wn.heap.size := (by have := hbn.size; (try simp at this); omega))))
      go_roundw
      case rel => exact ⟨k + 1, by omega, by go_num, by rw [← fillP_set (cy_lt hlt)]; exact (HO.out.below hbn).setP (by rw [fillP_len _ _ hk]; exact hlt) (cy L k), (by repeat (first | assumption | exact Below.refl _ _ | (refine below_chain ?_ (by assumption) (by first | omega | (simp <;> omega) | simp)) | (refine Below.alloc ?_ (by first | omega | (simp <;> omega) | simp) _) | (apply below_drewN) | (apply below_drew) | (refine Below.setCell ?_ (by first | omega | (simp <;> omega) | simp) _)))⟩
      case measure => simp [intOf]; omega
    · have e : k = L.length := by omega
      subst e
      clear how
      go_wp2_with fail
      go_ret
      exact ⟨rfl, by have := HO.out; rw [fillP_all] at this; exact this, (by repeat (first | assumption | exact Below.refl _ _ | (refine below_chain ?_ (by assumption) (by first | omega | (simp <;> omega) | simp)) | (refine Below.alloc ?_ (by first | omega | (simp <;> omega) | simp) _) | (apply below_drewN) | (apply below_drew) | (refine Below.setCell ?_ (by first | omega | (simp <;> omega) | simp) _)))⟩
set_option maxHeartbeats 1000000 in
theorem eqPts (p q : Option Addr) (c d : Nat) (L : List P2) (w : World) (hp : Ints w p (fl L)) (hq : Ints w q (fl L)) (hl : L.length ≤ 4000000000000000000) :
    Calls Try.prog 52 #[.slice p L.length c, .slice q L.length d] w fun e w' => e = .returned (.bool true) ∧ Below w.heap.size w w' := by
  have H := Lib.hid (And.intro hp hq)
  clear hp hq
  go_enter Try.func52, Try.ntmps52
  go_wp2_with fail
  go_loopw [5] (fun i wr => ∃ k : Nat, k ≤ L.length ∧ i = .int .i64 k ∧ Below w.heap.size w wr) (fun i _ => L.length - (intOf i).toNat)
  case atStart => exact ⟨0, Nat.zero_le _, rfl, Below.refl _ _⟩
  case round =>
    obtain ⟨k, hk, rfl, hbr⟩ := hrel
    have hbs := hbr.size
    by_cases hlt : k < L.length
    · obtain ⟨B, o, rfl, hB, e0, e1⟩ := (H.out.1.below hbr).pt hlt
      obtain ⟨B', o', rfl, hB', e2, e3⟩ := (H.out.2.below hbr).pt hlt
      go_wp2_with fail
      (refine wp_region_grows (by kernel_rfl) (by kernel_rfl) ?_; intro W_wg hWc_wg hWs_wg hWe_wg; (repeat (go_big_quiet_step ((go_at_call 56; with_reducible exact Ext.call (eqPoint_any _ _ _))))); with_reducible refine wpQuiet_nil ?_; clear hWe_wg hWs_wg hWc_wg W_wg; intro wg hb_wg; obtain ⟨hc_wg, hf_wg⟩ := bcell hb_wg; (try simp only [World.size_drew, World.cell?_drew, World.frozen?_drew, World.heap_drewN, World.cell?_drewN, World.frozen?_drewN] at hc_wg hf_wg); have hs_wg := hb_wg.size; (try simp at hs_wg))
      go_wp2_with fail
      go_roundw
      case rel => exact ⟨k + 1, by omega, by go_num, (by repeat (first | assumption | exact Below.refl _ _ | (refine below_chain ?_ (by assumption) (by first | omega | (simp <;> omega) | simp)) | (refine Below.alloc ?_ (by first | omega | (simp <;> omega) | simp) _) | (apply below_drewN) | (apply below_drew) | (refine Below.setCell ?_ (by first | omega | (simp <;> omega) | simp) _)))⟩
      case measure => simp [intOf]; omega
    · have e : k = L.length := by omega
      subst e
      go_wp2_with fail
      go_ret
      exact ⟨rfl, (by repeat (first | assumption | exact Below.refl _ _ | (refine below_chain ?_ (by assumption) (by first | omega | (simp <;> omega) | simp)) | (refine Below.alloc ?_ (by first | omega | (simp <;> omega) | simp) _) | (apply below_drewN) | (apply below_drew) | (refine Below.setCell ?_ (by first | omega | (simp <;> omega) | simp) _)))⟩
end Go.Proofs.Ytgncjpakclbegaa
namespace Go.Proofs.Ytgncjpakclbegaa
open Go.RowKit Poly
set_option linter.unusedVariables false

set_option maxHeartbeats 2000000 in
theorem markPts (g n cap : Nat) (xs : List Int) (w : World) (hp : Own w g 31 2 n cap xs) (hl : n ≤ 1048576) :
    Calls Try.prog 54 #[.slice (some ⟨g, 0, none⟩) n cap, .int .i64 1] w fun e w' => e = .returned (.int .i64 (1 + n * 2)) ∧ Own w' g 31 2 n cap (seqI 1 (n * 2)) ∧ grew w w' g := by
  have hx : xs.length = n * 2 := by have := hp.len; omega
  have h0 := Lib.hid hp
  clear hp
  go_enter Try.func54, Try.ntmps54
  go_wp2_with fail
  go_loopw [1, 5] (fun m i wr => ∃ k : Nat, k ≤ n ∧ i = .int .i64 k ∧ m = .int .i64 (1 + k * 2) ∧ Own wr g 31 2 n cap (mkS 1 (k * 2) xs) ∧ grew w wr g) (fun _ i _ => n - (intOf i).toNat)
  case atStart => exact ⟨0, Nat.zero_le _, rfl, by simp, by rw [Nat.zero_mul, mkS_zero]; exact h0.out, grew.refl _ _⟩
  case round =>
    obtain ⟨k, hk, rfl, rfl, how, hbr⟩ := hrel
    have HO := Lib.hid how
    have HG := Lib.hid hbr
    by_cases hlt : k < n
    · have hf0 := how.frozen (k * 2)
      have hf1 := how.frozen (k * 2 + 1)
      have hlo := how.lt
      have hml := mkS_len (s := 1) (k := k * 2) (xs := xs) (by omega)
      have hc0 := how.cells (i := k * 2) (z := ((mkS 1 (k * 2) xs)[k * 2]?).getD 0) (by rw [List.getElem?_eq_getElem (by omega)]; rfl)
      have hc1 := how.cells (i := k * 2 + 1) (z := ((mkS 1 (k * 2) xs)[k * 2 + 1]?).getD 0) (by rw [List.getElem?_eq_getElem (by omega)]; rfl)
      clear how hbr h0
      go_wp2_with fail
      go_roundw
      case rel =>
        refine ⟨k + 1, by omega, by go_num, by go_num, ?_, (HG.out.set _ _).set _ _⟩
        have h1 := HO.out.set (k * 2) (1 + (k * 2 : Nat)) (by omega)
        rw [mkS_set (by omega)] at h1
        have h2 := h1.set (k * 2 + 1) (1 + ((k * 2 + 1 : Nat) : Int)) (by rw [mkS_len (by omega)]; omega)
        rw [mkS_set (by omega)] at h2
        rw [show (k + 1) * 2 = k * 2 + 1 + 1 by omega]
        have e1 : ((1 : Int) + ((k * 2 : Nat) : Int)) = 1 + (k : Int) * 2 := by omega
        have e2 : ((1 : Int) + ((k * 2 + 1 : Nat) : Int)) = 1 + (k : Int) * 2 + 1 := by omega
        rw [e1, e2] at h2
        exact h2
      case measure => simp [intOf]; omega
    · have e : k = n := by omega
      subst e
      clear how hbr h0
      go_wp2_with fail
      go_ret
      exact ⟨rfl, by have := HO.out; rw [← hx, mkS_all] at this; rw [← hx]; exact this, HG.out⟩
set_option maxHeartbeats 2000000 in
theorem heldPts (n c : Nat) (p : Option Addr) (w : World) (hp : Ints w p (seqI 1 (n * 2))) (hl : n ≤ 1048576) :
    Calls Try.prog 55 #[.slice p n c, .int .i64 1] w fun e w' => e = .returned (.int .i64 (1 + n * 2)) ∧ w = w' := by
  have h0 := Lib.hid hp
  clear hp
  go_enter Try.func55, Try.ntmps55
  go_wp2_with fail
  go_loopw [1, 5] (fun m i wr => ∃ k : Nat, k ≤ n ∧ i = .int .i64 k ∧ m = .int .i64 (1 + k * 2) ∧ w = wr) (fun _ i _ => n - (intOf i).toNat)
  case atStart => exact ⟨0, Nat.zero_le _, rfl, by simp, rfl⟩
  case round =>
    obtain ⟨k, hk, rfl, rfl, rfl⟩ := hrel
    by_cases hlt : k < n
    · obtain ⟨B, o, z, rfl, hz, hB, hcx⟩ := h0.out.at (i := k * 2) (by rw [seqI_len]; omega)
      rw [seqI_at (by omega)] at hz
      cases hz
      obtain ⟨B', o', z', e', hz', hB', hcy⟩ := h0.out.at (i := k * 2 + 1) (by rw [seqI_len]; omega)
      simp at e'
      obtain ⟨rfl, rfl⟩ := e'
      rw [seqI_at (by omega)] at hz'
      cases hz'
      rw [← Nat.add_assoc] at hcy
      rw [show (1 : Int) + ((k * 2 : Nat) : Int) = 1 + (k : Int) * 2 by omega] at hcx
      rw [show (1 : Int) + ((k * 2 + 1 : Nat) : Int) = 1 + (k : Int) * 2 + 1 by omega] at hcy
      go_wp2_with fail
      go_roundw
      case rel => exact ⟨k + 1, by omega, by go_num, by go_num, by first | trivial | rfl⟩
      case measure => simp [intOf]; omega
    · have e : k = n := by omega
      subst e
      go_wp2_with fail
      go_ret
      exact ⟨rfl, rfl⟩
theorem markPts_nil (p : Option Addr) (c : Nat) (w : World) :
    Calls Try.prog 54 #[.slice p 0 c, .int .i64 1] w fun e w' => e = .returned (.int .i64 1) ∧ w = w' := by
  go_enter Try.func54, Try.ntmps54
  go_wp2_with fail
  go_loopw [1, 5] (fun m i wr => i = .int .i64 0 ∧ m = .int .i64 1 ∧ w = wr) (fun _ _ _ => 0)
  case atStart => exact ⟨rfl, rfl, rfl⟩
  case round =>
    obtain ⟨rfl, rfl, rfl⟩ := hrel
    go_wp2_with fail
    go_ret
    exact ⟨rfl, rfl⟩
theorem heldPts_nil (p : Option Addr) (c : Nat) (w : World) :
    Calls Try.prog 55 #[.slice p 0 c, .int .i64 1] w fun e w' => e = .returned (.int .i64 1) ∧ w = w' := by
  have := heldPts 0 c p w (.inl (by simp [seqI])) (by omega)
  simpa using this
end Go.Proofs.Ytgncjpakclbegaa
