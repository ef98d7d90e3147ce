/-
  The program's iterator over the corners of a polygon: what a loop over it is given, whatever its body does with its own variables.
-/
import Derived.Test.YtegcjdcinebleaaYr
import Derived.RangeFuncFrom
import Derived.RangeFuncLeaves
import Derived.Shelf.Abstract
import Derived.OwnWalkIn
import Derived.TacticsInMore
import Derived.LoopNIn
import Derived.LoopIn
import Derived.Shelf.RegionOpen
import Derived.Sort.QuietThIn
import Derived.Sort.QuietTacIn
import Derived.RangeFuncCalls
namespace Go.Proofs.Ytegcjdcinebleaa
open Go.RowKit Go.Shelf
set_option linter.unusedVariables false
attribute [local go_sem] Oper.semAt_some

theorem below_put {B : Nat} (W : World) (l : Nat) (o : Obj) (h : B ≤ l) : Below B W (W.putObj l o) := ⟨rfl, rfl, rfl, by simp, fun k hk => World.putObj_heap_other (by omega)⟩
/-- what a round keeps: all that lay below m, and the box of the polygon -/
def Kp2 (m Bn : Nat) (W W' : World) : Prop := Below m W W' ∧ W'.heap[Bn]? = W.heap[Bn]?
theorem Kp2.t {m Bn : Nat} {A B C : World} (h : Kp2 m Bn A B) (k : Kp2 m Bn B C) : Kp2 m Bn A C := ⟨h.1.trans k.1, k.2.trans h.2⟩
theorem Kp2.b {m Bn : Nat} {w : World} (hm : m ≤ w.heap.size) (hB : Bn < w.heap.size) (W : World) (l : Nat) (o o' : Obj) (hl : w.heap.size ≤ l) (h : W.heap[l]? = some o) (h1 : o.isCells = false) (h2 : o.isWalk = false) : Kp2 m Bn W (W.putObj l o') :=
  ⟨belowK_b hm W l o o' hl h h1 h2, World.putObj_heap_other (by omega)⟩
theorem Kp2.of {m Bn : Nat} {W W' : World} (h : Below W.heap.size W W') (hm : m ≤ W.heap.size) (hB : Bn < W.heap.size) : Kp2 m Bn W W' := ⟨h.mono hm, h.block _ hB⟩

open Classical in
/-- how many corners are still to come -/
noncomputable def restOf (A : Nat → Nat) (n : Nat) (v : Value) : Nat :=
  if h : ∃ k, k < n ∧ v = .pointer (some ⟨A k, 0, none⟩) then n - Classical.choose h else 0
theorem restOf_eq {n₀ : Nat} {A : Nat → Nat} {L : List Poly.P2} {w : World} (h : Ring n₀ A L w) {k : Nat} (hk : k < L.length) : restOf A L.length (.pointer (some ⟨A k, 0, none⟩)) = L.length - k := by
  have hex : ∃ j, j < L.length ∧ Value.pointer (some ⟨A k, 0, none⟩) = .pointer (some ⟨A j, 0, none⟩) := ⟨k, hk, rfl⟩
  unfold restOf
  rw [dif_pos hex]
  obtain ⟨h1, h2⟩ := Classical.choose_spec hex
  have e : A k = A (Classical.choose hex) := by simpa using h2
  have := h.inj _ _ e
  rw [Nat.mod_eq_of_lt hk, Nat.mod_eq_of_lt h1] at this
  omega

theorem iCorners (a : Option Addr) (w : World) :
    Calls Try.prog 106 #[.agg #[.pointer a]] w fun e w' => e = .returned (.func (.func 119) #[] #[.pointer (some ⟨w.heap.size, 0, none⟩)]) ∧ w' = w.alloc (.cells #[.pointer a] 69) := by
  go_enter Try.func106, Try.ntmps106
  go_wp2_with fail
  go_ret
  exact ⟨rfl, rfl⟩

section
variable {F : Fence} {n : Nat} {P : Program} {ops : Array Oper} {Q : Exit → Act → World → Prop}
/-- the rest of a region that draws its order, from its k-th operation on, all of which only read: in the order of the text -/
theorem any_tail {l : List Oper} {k : Nat} {listed : Array Bool} {a : Act} {w : World} (hro : F.round = none) (hns : Region.noSelect ops = true) (hl : ops.toList.drop k = l) (hB : Region.lexFrom .any ops l.length k listed = true)
    (h : wpQuietIn F n P ops (fun w' => ∃ m, w' = w.drewN m) (fun a' => ∀ w', (∃ m, w' = w.drewN m) → Q .normal a' w') l a) : wpAnyIn F n P .any ops Q l.length listed a w :=
  wpAnyIn_of_quiet (C := fun w' => ∃ m, w' = w.drewN m) (Q := fun a' => ∀ w', (∃ m, w' = w.drewN m) → Q .normal a' w') hro (fun _ w' hw' h => h w' hw') _ _ _ _ ⟨0, rfl⟩
    (wpAnyQIn_lex hns l k listed a (fun j => by rw [← hl, List.getElem?_drop]; simp) hB h)
end
set_option maxRecDepth 100000 in
set_option maxHeartbeats 2000000 in
theorem corners_in (n : Nat) (hn : 1 ≤ n) (l Bn n₀ : Nat) (A : Nat → Nat) (L : List Poly.P2) (hl : 0 < L.length) (J Jx : List Nat → World → Prop) (hJd : ∀ s W m, J s W → J s (W.drewN m)) (hJxd : ∀ s W m, Jx s W → Jx s (W.drewN m))
    (hY : ∀ pre x W, J pre W → pre.length < L.length → YieldAt Fence.wide (n - 1) Try.prog l #[.pointer (some ⟨A x, 0, none⟩)] W fun e W' =>
      (e = .returned (.bool true) ∧ J (pre ++ [x]) W' ∧ Kp2 n₀ Bn W W') ∨ (e = .returned (.bool false) ∧ Jx (pre ++ [x]) W'))
    (W : World) (hBn : W.cell? ⟨Bn, 0, none⟩ = some (.pointer (some ⟨A 0, 0, none⟩))) (hL : RingB n₀ A L W) (h0 : J [] W) :
    CallsIn Fence.wide n Try.prog 119 #[.func (.yield l) #[] #[], .pointer (some ⟨Bn, 0, none⟩)] W fun e W' => (∃ v, e = .returned v) ∧
      ((∃ ys, ys = List.range L.length ∧ J ys W') ∨ (∃ pre, (∃ m, pre = List.range m) ∧ Jx pre W')) := by
  have HY := Lib.hid hY
  have HD := Lib.hid (And.intro hJd hJxd)
  have hmx : Try.prog.follows .mixedOrders = true := by kernel_rfl
  clear hY hJd hJxd
  refine callsIn_of_wp Try.func119 rfl trivial ?_ rfl
  simp only [Try.ntmps119, List.size_toArray, List.length_cons, List.length_nil, Nat.reduceAdd, Nat.reduceSub, Array.replicate_succ, Array.replicate_zero, List.push_toArray, List.append_toArray, List.nil_append, List.cons_append]
  gi_wp2
  gi_loopw [3] (fun p wr => ∃ k : Nat, k < L.length ∧ p = .pointer (some ⟨A k, 0, none⟩) ∧ wr.cell? ⟨Bn, 0, none⟩ = some (.pointer (some ⟨A 0, 0, none⟩)) ∧ RingB n₀ A L wr ∧ J (List.range k) wr)
    (fun p wr => restOf A L.length p)
  case atStart => exact ⟨0, hl, rfl, hBn, hL, h0⟩
  case round =>
    clear hBn hL h0
    obtain ⟨k, hk, rfl, hB, hR, hJ⟩ := hrel
    have hlt : A k < wr.heap.size := by have := hR.blk k; exact (Array.getElem?_eq_some_iff.1 this).1
    obtain ⟨fn, tmps, assign, body, hy, hround⟩ := HY.out (List.range k) k wr.drew (HD.out.1 _ _ 1 hJ) (by simpa using hk)
    have HB := Lib.hid (And.intro hB hR)
    have HJ := Lib.hid hJ
    clear hB hR hJ
    gi_wp2
    refine wpIn_region_any hmx ?_
    refine wpAnyIn_take (i := 0) (v := .func (.yield l) #[] #[]) rfl rfl (by kernel_rfl) (by kernel_rfl) (by kernel_rfl) (fun _ _ _ h => h) ⟨Or.inl ⟨by rfl, fun w => ?_⟩, fun _ => rfl⟩ ?_
    · go_simp
    refine wpAnyIn_take (i := 1) (v := .pointer (some ⟨A k, 0, none⟩)) rfl rfl (by kernel_rfl) (by kernel_rfl) (by kernel_rfl) (fun _ _ _ h => h) ⟨Or.inl ⟨by rfl, fun w => ?_⟩, fun _ => rfl⟩ ?_
    · go_simp
    refine wpAnyIn_ready (rs := [2]) (by kernel_rfl) (by simp) ?_
    refine AllReadyIn.cons rfl (fun K hK => ?_) AllReadyIn.nil
    go_simp
    refine hround.mono ?_
    rintro e W3 (⟨rfl, hJ3, hk3⟩ | ⟨rfl, hJx3⟩)
    · have hR3 : RingB n₀ A L W3 := RingB.below (w := wr.drew) ⟨HB.out.2.ring.same (fun _ _ => rfl), HB.out.2.blk⟩ hk3.1
      have hbx : W3.cell? ⟨Bn, 0, none⟩ = some (.pointer (some ⟨A 0, 0, none⟩)) := (World.cell?_of_block hk3.2).trans HB.out.1
      have hq3 : W3.cell? ⟨A k, 2, none⟩ = some (.pointer (some ⟨A (k + 1), 0, none⟩)) := (hR3.ring.at' k).2.2
      have hne := fun b (hb : decide ((k + 1) % L.length = 0 % L.length) = !b) m => RingB.neq (w := W3.drewN m) ⟨hR3.ring.same (fun _ _ => rfl), hR3.blk⟩ (k + 1) 0 hb
      rw [Nat.zero_mod] at hne
      have H3 := Lib.hid (And.intro hJ3 (And.intro hR3 hbx))
      clear hJ3 hR3 hk3
      by_cases hlast : k + 1 = L.length
      · have hne' := hne false (by rw [hlast, Nat.mod_self]; rfl)
        have HL := Lib.hid hlast
        clear hne hlast
        refine hK _ _ ?_
        clear hK K
        refine any_tail (k := 3) rfl (by kernel_rfl) rfl (by kernel_rfl) ?_
        repeat (quiet_step_in (fail))
        refine wpQuietIn_nil ?_
        rintro _ ⟨nq, rfl⟩
        gi_wp2
        go_end0
        exact ⟨⟨_, rfl⟩, .inl ⟨_, rfl, by have := HD.out.1 _ _ nq H3.out.1; rw [← List.range_succ, show k.succ = L.length from HL.out] at this; exact this⟩⟩
      · have hne' := hne true (by rw [Nat.mod_eq_of_lt (show k + 1 < L.length by omega)]; rfl)
        have HL := Lib.hid hlast
        clear hne hlast
        refine hK _ _ ?_
        clear hK K
        refine any_tail (k := 3) rfl (by kernel_rfl) rfl (by kernel_rfl) ?_
        repeat (quiet_step_in (fail))
        refine wpQuietIn_nil ?_
        rintro _ ⟨nq, rfl⟩
        gi_wp2
        have hk1 : k + 1 < L.length := by have := HL.out; omega
        go_roundw
        case rel => exact ⟨k + 1, hk1, rfl, H3.out.2.2, ⟨H3.out.2.1.ring.same (fun _ _ => rfl), H3.out.2.1.blk⟩, by have := HD.out.1 _ _ nq H3.out.1; rw [← List.range_succ] at this; exact this⟩
        case measure => rw [restOf_eq HB.out.2.ring hk1, restOf_eq HB.out.2.ring hk]; omega
    · refine hK _ _ ?_
      clear hK K
      refine any_tail (k := 3) rfl (by kernel_rfl) rfl (by kernel_rfl) ?_
      repeat (quiet_step_in (fail))
      refine wpQuietIn_nil ?_
      rintro _ ⟨nq, rfl⟩
      gi_wp2
      go_end0
      exact ⟨⟨_, rfl⟩, .inr ⟨_, ⟨k + 1, rfl⟩, by have := HD.out.2 _ _ nq hJx3; rw [← List.range_succ] at this; exact this⟩⟩
/-- what a loop over the corners is given -/
theorem corners_stops (n : Nat) (hn : 1 ≤ n) (Bn n₀ : Nat) (A : Nat → Nat) (L : List Poly.P2) (hl : 0 < L.length) (w : World) (hB : Bn < w.heap.size) (hm : n₀ ≤ w.heap.size) (hc : w.cell? ⟨Bn, 0, none⟩ = some (.pointer (some ⟨A 0, 0, none⟩))) (hL : RingB n₀ A L w) :
    SeqStopsK Fence.wide n Try.prog 119 #[.pointer (some ⟨Bn, 0, none⟩)] (fun x : Nat => #[Value.pointer (some ⟨A x, 0, none⟩)]) (Kp2 n₀ Bn) (fun ys => ys = List.range L.length) (fun pre => ∃ m, pre = List.range m) L.length w := fun l J Jx W hW hJ hJx hY h0 =>
  corners_in n hn l Bn n₀ A L hl J Jx (fun s W m h => hJ s _ _ none h ⟨rfl, rfl, rfl, Nat.le_refl _, fun _ _ _ => rfl⟩ (fun r e => by cases e)) (fun s W m h => hJx s _ _ none h ⟨rfl, rfl, rfl, Nat.le_refl _, fun _ _ _ => rfl⟩ (fun r e => by cases e)) hY W ((hW.cell (p := ⟨Bn, 0, none⟩) hB).trans hc) (hL.below (hW.mono hm)) h0
theorem RingB.own {n₀ : Nat} {A : Nat → Nat} {L : List Poly.P2} {W W' : World} {row : Option Nat} (h : RingB n₀ A L W) (hg : W.grownBy W' row) (hr : ∀ r, row = some r → ∃ o : Obj, W.heap[r]? = some o ∧ o.isCells = false) : RingB n₀ A L W' :=
  RingB.of h.ring.lt (fun k => (grownBy_keeps_cells hg hr (h.blk k) rfl).trans (h.blk k)) h.ring.per h.ring.inj
/-- what every loop over the corners holds: the ring, all that lay when the call began, and the heap's size -/
structure Hold (w : World) (n₀ : Nat) (A : Nat → Nat) (L : List Poly.P2) (m : Nat) (W : World) : Prop where
  ring : RingB n₀ A L W
  below : Below w.heap.size w W
  size : m ≤ W.heap.size
theorem Hold.own {w : World} {n₀ : Nat} {A : Nat → Nat} {L : List Poly.P2} {m : Nat} {W W' : World} {row : Option Nat} (h : Hold w n₀ A L m W) (hm : w.heap.size ≤ m) (hg : W.grownBy W' row) (hr : ∀ r, row = some r → m ≤ r ∧ ∃ o : Obj, W.heap[r]? = some o ∧ o.isCells = false) : Hold w n₀ A L m W' :=
  ⟨h.ring.own hg (fun r e => (hr r e).2), h.below.grown hg (by have := h.size; omega) (fun r e => by have := (hr r e).1; omega), Nat.le_trans h.size hg.size⟩
theorem Hold.next {w : World} {n₀ : Nat} {A : Nat → Nat} {L : List Poly.P2} {m : Nat} {W W' : World} (h : Hold w n₀ A L m W) (hn : n₀ ≤ w.heap.size) (hm : w.heap.size ≤ m) (hb : Below m W W') : Hold w n₀ A L m W' :=
  ⟨h.ring.below (hb.mono (by omega)), h.below.trans (hb.mono hm), Nat.le_trans h.size hb.size⟩
def sumL (f : Nat → Int) (pre : List Nat) : Int := pre.foldl (fun s i => s + f i) 0
theorem sumL_snoc (f : Nat → Int) (pre : List Nat) (x : Nat) : sumL f (pre ++ [x]) = sumL f pre + f x := by simp [sumL]
theorem sumL_range (f : Nat → Int) : ∀ n, sumL f (List.range n) = Poly.sumF f n
  | 0 => rfl
  | n + 1 => by rw [List.range_succ, sumL_snoc, sumL_range f n]; rfl
theorem sumL_bd {f : Nat → Int} {m : Int} (h : ∀ i, -m ≤ f i ∧ f i ≤ m) (pre : List Nat) : -(m * pre.length) ≤ sumL f pre ∧ sumL f pre ≤ m * pre.length := by
  suffices ∀ (pre : List Nat) (s : Int), s - m * pre.length ≤ pre.foldl (fun s i => s + f i) s ∧ pre.foldl (fun s i => s + f i) s ≤ s + m * pre.length by
    have := this pre 0
    unfold sumL; omega
  intro pre
  induction pre with
  | nil => intro s; simp
  | cons a l ih =>
    intro s
    have h1 := ih (s + f a)
    have h2 := h a
    have e : m * ((a :: l).length : Int) = m * l.length + m := by rw [List.length_cons, Int.natCast_add, Int.mul_add]; simp
    rw [List.foldl_cons]
    omega
theorem keeps_below {W W' : World} (h : Below W.heap.size W W') : KeepsOthers W W' := ⟨h.size, fun k o hk _ => (h.block k (Array.getElem?_eq_some_iff.1 hk).1).trans hk⟩
/-- a store into a block of the caller's own behind new memory -/
theorem Kp2.put {m Bn g o : Nat} {W W' : World} (h : Below W.heap.size W W') (hm : m ≤ W.heap.size) (hB : Bn < W.heap.size) (hg : m ≤ g) (hne : g ≠ Bn) (v : Value) : Kp2 m Bn W (W'.setCell ⟨g, o, none⟩ v) :=
  ⟨(h.mono hm).setCell (p := ⟨g, o, none⟩) hg _, (Below.heap_setCell W' ⟨g, o, none⟩ v Bn (fun e => hne e.symm)).trans (h.block _ hB)⟩
theorem Hold.put {w : World} {n₀ : Nat} {A : Nat → Nat} {L : List Poly.P2} {m g o : Nat} {W : World} (h : Hold w n₀ A L m W) (hn : n₀ ≤ w.heap.size) (hg : w.heap.size ≤ g) (v : Value) : Hold w n₀ A L m (W.setCell ⟨g, o, none⟩ v) :=
  ⟨h.ring.below ((Below.refl n₀ W).setCell (p := ⟨g, o, none⟩) (show n₀ ≤ g by omega) _), h.below.setCell (p := ⟨g, o, none⟩) hg _, by simpa using h.size⟩
def oddP (f : Nat → Bool) (pre : List Nat) : Bool := pre.foldl (fun s i => xor s (f i)) false
theorem oddP_snoc (f : Nat → Bool) (pre : List Nat) (x : Nat) : oddP f (pre ++ [x]) = xor (oddP f pre) (f x) := by simp [oddP]
theorem oddP_range (f : Nat → Bool) : ∀ n, oddP f (List.range n) = Poly.oddF f n
  | 0 => rfl
  | n + 1 => by rw [List.range_succ, oddP_snoc, oddP_range f n]; rfl
end Go.Proofs.Ytegcjdcinebleaa
