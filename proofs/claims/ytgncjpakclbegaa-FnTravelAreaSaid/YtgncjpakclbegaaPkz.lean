/-
  The program's parcels: which lists are parcels, which sides oppose each other.
  The program's lists of points laid one behind the other (slices.Grow, slices.Concat).
  The corners of a parcel at which it does not go straight on, by the program.
  How many sides two parcels have in common, by the program: two loops over corners, one within the other.
  How the program splits a parcel.
  What the program's functions on parcels answer: split, share, marks, common sides.
-/
import Derived.Test.YtgncjpakclbegaaYip
import Derived.Test.YtgncjpakclbegaaYma
import Derived.Test.YtgncjpakclbegaaPkp
import Derived.Test.YtgncjpakclbegaaYra
import Derived.Test.YtgncjpakclbegaaZf
import Derived.Lib.AppendZeros
import Derived.RangeFuncNested
import Derived.Test.YtgncjpakclbegaaYdr
namespace Go.Proofs.Ytgncjpakclbegaa
open Go.RowKit Poly
set_option linter.unusedVariables false

theorem set_same {w : World} {g : Nat} {x : Value} (h : w.cell? ⟨g, 0, none⟩ = some x) (v : Value) : (w.setCell ⟨g, 0, none⟩ v).cell? ⟨g, 0, none⟩ = some v := World.cell?_setCell_same' _ _ _ (by rw [h]; rfl)
section
variable {p : Option Addr} {c : Nat} {L : List P2} {w : World}
end
section
variable {n₁ n₂ : Nat} {A B : Nat → Nat} {L M : List P2} {w : World}
end
end Go.Proofs.Ytgncjpakclbegaa
namespace Go.Proofs.Ytgncjpakclbegaa
open Go.RowKit Poly
set_option linter.unusedVariables false

theorem wp_append_zerosP {P : Program} (w : World) {ops : Array Oper} {rest : List Oper} {o : Oper} {a : Act} {Q : Exit → Act → World → Prop} (hgd : o.guard = none) (s x : Operand) (t tn : TypeId)
    (ho : o.op = .call { callee := .builtin .append, args := #[s, x], argTypes := #[t, tn] })
    (e : TypeId) (z : Value) (sz bytes : Nat) (ht : P.underlying t = some (.slice e)) (htn : P.underlying tn = some (.int .i64)) (hinfo : (P.info? e).map (fun i => (i.zero, i.size, i.bytes)) = some (some z, sz, bytes)) (hzs : z.cells.size = sz) (hsz : 0 < sz) (hby : bytes ≤ 32)
    (hs : a.eval s = .slice none 0 0) (n : Nat) (hn : 0 < n) (hn4 : n ≤ 4194304) (hx : a.eval x = .int .i64 n)
    (h : ∀ cap' w', n ≤ cap' → Own w' w.heap.size e sz 0 cap' [] → Below w.heap.size w w' → wpList P ops Q rest (a.put o.dst (.slice (some ⟨w.heap.size, 0, none⟩) n cap')) w') :
    wpList P ops Q (o :: rest) a w := by
  obtain ⟨i, hi, hzz⟩ := Option.map_eq_some_iff.1 hinfo
  simp only [Prod.mk.injEq] at hzz
  obtain ⟨hz, hs', hb⟩ := hzz
  have hbn : n * bytes ≤ 4194304 * 32 := Nat.mul_le_mul hn4 hby
  refine Lib.wpList_append_run w hgd s x t tn ho _ _ hs hx _ _ (Lib.run_append_nil_zeros (P := P) w t tn o.type e i z .i64 .i64 ht htn hi hz n hn (by omega) (by omega) (by rw [hb]; omega)) ?_
  have hcap := grownCap_ge w n 0 e
  refine h _ _ hcap ?_ ((below_drew (Below.refl _ _)).alloc (Nat.le_refl _) _)
  refine .of (cur := Builtin.zeroCells z.cells n ++ Builtin.zeroCells z.cells (grownCap w n 0 e - n)) ?_ (Nat.zero_le _) (grownCap_le_maxLen w n 0 e (by unfold maxLen; omega)) ?_ (by simp [ivs]) (by simp)
  · have := Deep.blk_alloc_new w.drew (.cells (Builtin.zeroCells z.cells n ++ Builtin.zeroCells z.cells (grownCap w n 0 e - n)) e)
    exact this
  · rw [Array.size_append, size_zeroCells, size_zeroCells, hzs, ← Nat.add_mul]
    congr 1; omega

theorem cell_below_anyP {w w' : World} {a : Addr} {v : Value} (h : Below w.heap.size w w') (hc : w.cell? a = some v) : w'.cell? a = some v := (World.cell?_of_block (h.block _ (World.block_lt_of_cell? w a hc))).trans hc
/-- what is laid out after each of two lists -/
def prtP (xs ys : List P2) (j : Nat) : List P2 := if j = 0 then [] else if j = 1 then xs else xs ++ ys
end Go.Proofs.Ytgncjpakclbegaa
namespace Poly
def mstep (L : List P2) (s : Nat × List P2) (x : Nat) : Nat × List P2 := (x, if sd (cy L s.1) (cy L (s.1 + 1)) (cy L (x + 1)) = 0 then s.2 else s.2 ++ [cy L x])
def mst (L : List P2) (pre : List Nat) : Nat × List P2 := pre.foldl (mstep L) (L.length - 1, [])
theorem mst_snoc (L : List P2) (pre : List Nat) (x : Nat) : mst L (pre ++ [x]) = mstep L (mst L pre) x := by unfold mst; rw [List.foldl_append]; rfl
theorem mst_len (L : List P2) (pre : List Nat) : (mst L pre).2.length ≤ pre.length := by
  suffices ∀ (pre : List Nat) (s : Nat × List P2), (pre.foldl (mstep L) s).2.length ≤ s.2.length + pre.length by
    have := this pre (L.length - 1, [])
    simpa [mst] using this
  intro pre
  induction pre with
  | nil => intro s; simp
  | cons a l ih =>
    intro s
    have := ih (mstep L s a)
    have h2 : (mstep L s a).2.length ≤ s.2.length + 1 := by unfold mstep; dsimp only; split <;> simp
    rw [List.foldl_cons, List.length_cons]
    omega
theorem mst_range (L : List P2) (h : 0 < L.length) : ∀ k, mst L (List.range k) = (if k = 0 then L.length - 1 else k - 1, marksTo L k)
  | 0 => rfl
  | k + 1 => by
    rw [List.range_succ, mst_snoc, mst_range L h k, marksTo_succ]
    have e : cy L (if k = 0 then L.length - 1 else k - 1) = cy L (k + L.length - 1) := by
      split
      · next e => subst e; rw [Nat.zero_add]
      · rw [show k + L.length - 1 = (k - 1) + L.length by omega, cy_add]
    have e2 : cy L ((if k = 0 then L.length - 1 else k - 1) + 1) = cy L k := by
      split
      · next e => subst e; rw [show L.length - 1 + 1 = 0 + L.length by omega, cy_add]
      · rw [show k - 1 + 1 = k by omega]
    unfold mstep markB
    dsimp only
    rw [e, e2]
    by_cases hz : sd (cy L (k + L.length - 1)) (cy L k) (cy L (k + 1)) = 0 <;> simp [hz]
end Poly
namespace Go.Proofs.Ytgncjpakclbegaa
open Go.RowKit Go.Shelf Poly
set_option linter.unusedVariables false
attribute [local go_sem] Oper.semAt_some

theorem LstP.belowP {lo : Nat} {W W' : World} {v : Value} {xs : List P2} (h : LstP lo W v xs) (hb : Below W.heap.size W W') : LstP lo W' v xs := by
  rcases h with h | ⟨g, cap, h1, h2, h3⟩
  · exact .inl h
  · exact .inr ⟨g, cap, h1, h2, h3.below hb⟩
theorem LstP.set {lo G : Nat} {W : World} {v : Value} {xs : List P2} (h : LstP lo W v xs) (hG : G < lo) (u : Value) : LstP lo (W.setCell ⟨G, 0, none⟩ u) v xs := by
  rcases h with h | ⟨g, cap, h1, h2, h3⟩
  · exact .inl h
  · exact .inr ⟨g, cap, h1, h2, h3.setOther (by simp; omega) _⟩
theorem LstP.low {lo lo' : Nat} {W : World} {v : Value} {xs : List P2} (h : LstP lo W v xs) (hl : lo' ≤ lo) : LstP lo' W v xs := by
  rcases h with h | ⟨g, cap, h1, h2, h3⟩
  · exact .inl h
  · exact .inr ⟨g, cap, h1, Nat.le_trans hl h2, h3⟩
theorem LstP.put {lo D : Nat} {W : World} {v : Value} {xs : List P2} (h : LstP lo W v xs) (hK : W.heap[D]? = some (.deferred (some []))) {o : Obj} : LstP lo (W.putObj D o) v xs := by
  rcases h with h | ⟨g, cap, h1, h2, h3⟩
  · exact .inl h
  · refine .inr ⟨g, cap, h1, h2, h3.block ?_⟩
    obtain ⟨cur, hb, -⟩ := h3.body
    refine World.putObj_heap_other (fun e => ?_)
    rw [e] at hb
    rw [hb] at hK
    cases hK
end Go.Proofs.Ytgncjpakclbegaa
namespace Go.Proofs.Ytgncjpakclbegaa
open Go.RowKit Go.Shelf Poly
set_option linter.unusedVariables false
attribute [local go_sem] Oper.semAt_some

theorem kp2_own {n Bn B' : Nat} {β : Type} {W0 : World} (hB : W0.heap.size ≤ B') (hn : n ≤ W0.heap.size) (hb : Bn < W0.heap.size) : OwnFrom B' (fun (_ : β) W => Kp2 n Bn W0 W) :=
  fun _ X Y row hs hg hr => ⟨hs.1.grown hg (by have := hs.1.size; omega) (fun r e => by have := (hr r e).1; omega),
    (hg.block Bn (by have := hs.1.size; omega) (fun e => by have := (hr Bn e.symm).1; omega)).trans hs.2⟩
theorem size_own {β : Type} {B' m : Nat} : OwnFrom B' (fun (_ : β) (W : World) => m ≤ W.heap.size) := fun _ X Y row hs hg hr => Nat.le_trans hs hg.size
end Go.Proofs.Ytgncjpakclbegaa
namespace Go.Proofs.Ytgncjpakclbegaa
open Go.RowKit Poly
set_option linter.unusedVariables false

theorem ints_part {w : World} {g i m : Nat} {L : List P2} (h : Ints w (some ⟨g, 0, none⟩) (fl L)) : Ints w (some ⟨g, i * 2, none⟩) (fl ((L.drop i).take m)) := by
  by_cases e : fl ((L.drop i).take m) = []
  · exact .inl e
  · have hb : g < w.heap.size := by
      rcases h with h | ⟨B, o, e1, hB, hc⟩
      · exfalso
        apply e
        have hL : L = [] := by
          cases L with
          | nil => rfl
          | cons a l => simp [fl] at h
        rw [hL]; simp [fl]
      · injection e1 with e1
        injection e1 with e1 e2
        subst e1; exact hB
    refine .inr ⟨g, i * 2, rfl, hb, fun j z hj => ?_⟩
    rw [fl_take, List.getElem?_take] at hj
    split at hj
    · rw [fl_drop, List.getElem?_drop] at hj
      have := pts_cell h hj
      rw [Nat.zero_add] at this
      exact this
    · cases hj
/-- what parcelOf answers, whatever the list -/
def POf (w : World) (L : List P2) (e : Ending) (w' : World) : Prop :=
  ∃ q : Option Addr, (e = .returned (.tuple #[.agg #[.pointer q], .bool (parV L)]) ∧ (parV L = true → ∃ A : Nat → Nat, q = some ⟨A 0, 0, none⟩ ∧ RingB w'.heap.size A L w')) ∧ Below w.heap.size w w'
theorem ways_split {V : World} {B : List P2} {b : Bool} {G : Prop} {P : Nat → Nat → Nat → Nat → Option Addr → World → Prop}
    (h1 : (∀ Y sb g2 d2 q2 W, W.cell? ⟨Y, 0, none⟩ = some (.pointer q2) → V.heap.size ≤ Y → Below V.heap.size V W → (b = true → ∃ A : Nat → Nat, q2 = some ⟨A 0, 0, none⟩ ∧ RingB W.heap.size A B W) → P Y sb g2 d2 q2 W) → G)
    (h2 : ∀ Y sb g2 d2 q2 W, W.cell? ⟨Y, 0, none⟩ = some (.pointer q2) → V.heap.size ≤ Y → Below V.heap.size V W → (b = true → ∃ A : Nat → Nat, q2 = some ⟨A 0, 0, none⟩ ∧ RingB W.heap.size A B W) → P Y sb g2 d2 q2 W) : G := h1 h2
end Go.Proofs.Ytgncjpakclbegaa
namespace Go.Proofs.Ytgncjpakclbegaa
open Go.RowKit Poly
set_option linter.unusedVariables false

section
variable {p q : Option Addr} {c d : Nat} {L M : List P2} {w : World}
end
end Go.Proofs.Ytgncjpakclbegaa
