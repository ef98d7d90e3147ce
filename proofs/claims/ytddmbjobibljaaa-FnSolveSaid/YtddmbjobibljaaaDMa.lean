/-
  What the draws of the laws on matrices give: lists of rows of their own (at most five, each of at most six numbers), whatever the numbers are, by new memory alone.
-/
import Derived.Test.YtddmbjobibljaaaZd
import Derived.Test.YtddmbjobibljaaaZc
import Derived.Test.YtddmbjobibljaaaCode
namespace Go.Proofs.Ytddmbjobibljaaa
open Go.RowKit
set_option linter.unusedVariables false

theorem gb_ownM {a w w' : World} {R g : Nat} (h : a.grownBy w (some R)) (hg : w.grownBy w' (some g)) (hn : a.heap.size ≤ g) : a.grownBy w' (some R) :=
  ⟨hg.os.trans h.os, hg.tape.trans h.tape, hg.output.trans h.output, Nat.le_trans h.size hg.size, fun i hi hne => (hg.block i (Nat.lt_of_lt_of_le hi h.size) (by simp; omega)).trans (h.block i hi hne)⟩
theorem rdr_ownM {k R g : Nat} {w w' : World} (h : Rdr k w R) (hg : w.grownBy w' (some g)) (hn : R < g) : Rdr k w' R :=
  rdr_below h ⟨hg.os, hg.tape, hg.output, hg.size, fun i hi => hg.block i (by have := rdr_lt h; omega) (by simp; omega)⟩
theorem three_atM (m : Int) (h0 : 0 ≤ m) (h1 : m < 3) (a b c : Int) : ∃ z : Int, (#[Value.int .i64 a, Value.int .i64 b, Value.int .i64 c] : Array Value)[m.toNat]? = some (.int .i64 z) := by
  rcases (show m = 0 ∨ m = 1 ∨ m = 2 by omega) with rfl | rfl | rfl
  · exact ⟨a, rfl⟩
  · exact ⟨b, rfl⟩
  · exact ⟨c, rfl⟩
theorem gb_undrM {w w' : World} {o : Obj} {r : Option Nat} (h : (w.drew.alloc o).grownBy w' r) : (w.alloc o).grownBy w' r := ⟨h.os, h.tape, h.output, h.size, h.block⟩
theorem gb_undrN {w w' : World} {r : Option Nat} (h : w.drew.grownBy w' r) : w.grownBy w' r := ⟨h.os, h.tape, h.output, h.size, h.block⟩
theorem gb_oneM (w : World) (B i : Nat) (v : Value) : w.grownBy (w.setCell ⟨B, i, none⟩ v) (some B) := by
  refine gb_setCell (gb_refl w _) (.inl rfl) v
/-- a list of rows that is kept in new blocks, beside the reader in block R -/
def GridIn (w0 w : World) (R g cap : Nat) (bs : List (Nat × Nat)) (L : List (List Int)) : Prop := GridO w 3 23 w0.heap.size g cap bs L ∧ w0.grownBy w (some R)
section
variable {w0 w w' : World} {R g cap : Nat} {bs : List (Nat × Nat)} {L : List (List Int)}
theorem GridIn.moved (h : GridIn w0 w R g cap bs L) (hg : w.grownBy w' (some R)) (hR : R < w0.heap.size) : GridIn w0 w' R g cap bs L := ⟨h.1.grown hg hR, gb_trans h.2 hg⟩
theorem GridIn.alloc (h : GridIn w0 w R g cap bs L) (o : Obj) : GridIn w0 (w.alloc o) R g cap bs L := ⟨h.1.alloc o, gb_alloc h.2 o⟩
theorem GridIn.below (h : GridIn w0 w R g cap bs L) (hb : Below w.heap.size w w') : GridIn w0 w' R g cap bs L := ⟨h.1.below hb, gb_below h.2 hb⟩
/-- a number of a row written -/
theorem GridIn.put {i b c j : Nat} {r : List Int} (h : GridIn w0 w R g cap bs L) (hb : bs[i]? = some (b, c)) (hr : L[i]? = some r) (hj : j < r.length) (z : Int) : GridIn w0 (w.setCell ⟨b, j, none⟩ (.int .i64 z)) R g cap bs (L.set i (r.set j z)) :=
  ⟨h.1.setRow hb hr (by rw [List.length_set]) (by have := (h.1.row i b c r hb hr).set j z hj; rwa [List.length_set]) (gb_oneM w b j _), gb_new h.2 (h.1.far i b c hb).1 _⟩
end
theorem rowVs_place (b' c' : Nat) (r' : List Int) : ∀ (bs : List (Nat × Nat)) (L : List (List Int)) (i : Nat), (rowVs bs L).set i (.slice (some ⟨b', 0, none⟩) r'.length c') = rowVs (bs.set i (b', c')) (L.set i r')
  | [], L, i => by cases i <;> simp [rowVs]
  | (b, c) :: bs, [], i => by cases i <;> simp [rowVs]
  | (b, c) :: bs, r :: L, 0 => rfl
  | (b, c) :: bs, r :: L, i + 1 => by
    simp only [rowVs, List.set_cons_succ]
    rw [rowVs_place b' c' r' bs L i]
/-- a row in the place of another -/
theorem GridO.place {w w' : World} {TI TR : TypeId} {lo g cap i b c b' c' n : Nat} {bs : List (Nat × Nat)} {L : List (List Int)} {r r' : List Int} (h : GridO w TI TR lo g cap bs L) (hb : bs[i]? = some (b, c)) (hr : L[i]? = some r) (hn : r'.length = n)
    (hg : w.grownBy w' (some b)) (hloc : b' = b ∨ w.heap.size ≤ b') (ho : Own w' b' TI 1 n c' r') : GridO (w'.setCell ⟨g, i, none⟩ (.slice (some ⟨b', 0, none⟩) n c')) TI TR lo g cap (bs.set i (b', c')) (L.set i r') := by
  subst hn
  have hi := (List.getElem?_eq_some_iff.1 hr).1
  have hib := (List.getElem?_eq_some_iff.1 hb).1
  have hlt := h.lt
  have hfar := h.far i b c hb
  have hlow := h.low
  have hblt := (h.row i b c r hb hr).lt
  have hb'g : b' ≠ g := by rcases hloc with e | e <;> omega
  have hcase : ∀ (j b2 c2 : Nat), (bs.set i (b', c'))[j]? = some (b2, c2) → (j = i ∧ b2 = b' ∧ c2 = c') ∨ (j ≠ i ∧ bs[j]? = some (b2, c2)) := fun j b2 c2 hj => by
    rw [List.getElem?_set] at hj
    by_cases e : i = j
    · subst e
      rw [if_pos rfl, if_pos hib] at hj
      simp at hj
      exact .inl ⟨rfl, hj.1.symm, hj.2.symm⟩
    · rw [if_neg e] at hj
      exact .inr ⟨Ne.symm e, hj⟩
  refine ⟨?_, by rw [List.length_set, List.length_set]; exact h.len, fun j b2 c2 x hj hx => ?_, fun j b2 c2 hj => ?_, fun j k b2 c2 b3 c3 hj hk hjk => ?_, hlow⟩
  · have h1 := (h.top.grown hg (Ne.symm hfar.2)).set i (.slice (some ⟨b', 0, none⟩) r'.length c') (by rw [rowVs_len h.len]; exact hi)
    have e1 := rowVs_place b' c' r' bs L i
    rw [e1] at h1
    rw [List.length_set]; exact h1
  · rcases hcase j b2 c2 hj with ⟨rfl, rfl, rfl⟩ | ⟨hne, e⟩
    · rw [List.getElem?_set, if_pos rfl, if_pos hi] at hx
      cases hx
      exact ho.setOther (a := ⟨g, j, none⟩) hb'g _
    · rw [List.getElem?_set, if_neg (Ne.symm hne)] at hx
      have h5 := h.dis j i b2 c2 b c e hb hne
      exact ((h.row j b2 c2 x e hx).grown hg h5).setOther (a := ⟨g, i, none⟩) (h.far j b2 c2 e).2 _
  · rcases hcase j b2 c2 hj with ⟨rfl, rfl, rfl⟩ | ⟨hne, e⟩
    · exact ⟨by rcases hloc with e | e <;> omega, hb'g⟩
    · exact h.far j b2 c2 e
  · rcases hcase j b2 c2 hj with ⟨rfl, rfl, rfl⟩ | ⟨hne, e⟩ <;> rcases hcase k b3 c3 hk with ⟨rfl, rfl, rfl⟩ | ⟨hne', e'⟩
    · exact absurd rfl hjk
    · have h5 := h.dis j k b c b3 c3 hb e' hjk
      obtain ⟨x, hx⟩ : ∃ x, L[k]? = some x := ⟨_, List.getElem?_eq_getElem (by rw [← h.len]; exact (List.getElem?_eq_some_iff.1 e').1)⟩
      have h6 := (h.row k b3 c3 x e' hx).lt
      rcases hloc with e | e <;> omega
    · have h5 := h.dis j k b2 c2 b c e hb hjk
      obtain ⟨x, hx⟩ : ∃ x, L[j]? = some x := ⟨_, List.getElem?_eq_getElem (by rw [← h.len]; exact (List.getElem?_eq_some_iff.1 e).1)⟩
      have h6 := (h.row j b2 c2 x e hx).lt
      rcases hloc with e | e <;> omega
    · exact h.dis j k b2 c2 b3 c3 e e' hjk
end Go.Proofs.Ytddmbjobibljaaa
