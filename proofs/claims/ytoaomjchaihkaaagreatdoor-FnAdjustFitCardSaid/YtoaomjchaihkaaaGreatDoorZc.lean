/-
  Lists of lists of integers in memory: as they are read, and as a call has made them, each row in a block of its own. No function of the program is named.
  Lists of lists of integers: marks laid one behind the other; a list of rows that is being filled. No function of the program is named.
  The reference model's check of a matrix.
  The reference model's matrix without its first row and a column.
  The reference model's determinant, along the first row; MatDet.
  How the laws copy lists of lists of integers, compare them, mark what is theirs and look whether it holds.
  How the laws copy, mark and look at lists of lists of integers.
  How the laws mark a list of lists of integers from any number on.
  How the laws on draws compare matrices and lists.
-/
import Derived.Test.YtoaomjchaihkaaaGreatDoorZa
import Derived.Test.YtoaomjchaihkaaaGreatDoorZb
import Derived.Deep.Cut
import Derived.Deep.RegionHeld3
namespace Go.Proofs.YtoaomjchaihkaaaGreatDoor
set_option linter.unusedVariables false
open Go.RowKit

/-- what a slice of slices reads as -/
def GRead (w : World) (p : Option Addr) (L : List (List Int)) : Prop :=
  L = [] ∨ ∃ B o, p = some ⟨B, o, none⟩ ∧ B < w.heap.size ∧ ∀ (i : Nat) (r : List Int), L[i]? = some r → ∃ q c, w.cell? ⟨B, o + i, none⟩ = some (.slice q r.length c) ∧ r.length ≤ c ∧ Ints w q r
theorem GRead.below {w w' : World} {p : Option Addr} {L : List (List Int)} (h : GRead w p L) (hb : Below w.heap.size w w') : GRead w' p L := by
  rcases h with h | ⟨B, o, hp, hB, hx⟩
  · exact .inl h
  · refine .inr ⟨B, o, hp, by have := hb.size; omega, fun i r hi => ?_⟩
    obtain ⟨q, c, h1, h3, h2⟩ := hx i r hi
    exact ⟨q, c, (hb.cell (p := ⟨B, o + i, none⟩) hB).trans h1, h3, h2.below hb⟩
theorem GRead.alloc {w : World} {p : Option Addr} {L : List (List Int)} (h : GRead w p L) (o : Obj) : GRead (w.alloc o) p L := h.below ((Below.refl _ _).alloc (Nat.le_refl _) _)
theorem GRead.drewN {w : World} {p : Option Addr} {L : List (List Int)} (h : GRead w p L) (n : Nat) : GRead (w.drewN n) p L := h
theorem GRead.at {w : World} {p : Option Addr} {L : List (List Int)} (h : GRead w p L) {i : Nat} (hi : i < L.length) : ∃ B o r q c, p = some ⟨B, o, none⟩ ∧ L[i]? = some r ∧ B < w.heap.size ∧ w.cell? ⟨B, o + i, none⟩ = some (.slice q r.length c) ∧ r.length ≤ c ∧ Ints w q r := by
  rcases h with h | ⟨B, o, hp, hB, hx⟩
  · subst h; simp at hi
  · have e : L[i]? = some L[i] := List.getElem?_eq_getElem hi
    obtain ⟨q, c, h1, h3, h2⟩ := hx i _ e
    exact ⟨B, o, _, q, c, hp, e, hB, h1, h3, h2⟩

/-- the values of rows in blocks -/
def rowVs : List (Nat × Nat) → List (List Int) → List Value
  | (b, c) :: bs, r :: L => .slice (some ⟨b, 0, none⟩) r.length c :: rowVs bs L
  | _, _ => []
theorem rowVs_at : ∀ {bs : List (Nat × Nat)} {L : List (List Int)} {i b c : Nat} {r : List Int}, bs[i]? = some (b, c) → L[i]? = some r → (rowVs bs L)[i]? = some (.slice (some ⟨b, 0, none⟩) r.length c)
  | [], _, _, _, _, _, h, _ => by simp at h
  | _ :: _, [], _, _, _, _, _, h => by simp at h
  | (b', c') :: bs, r' :: L, 0, b, c, r, h, h' => by simp at h h'; obtain ⟨rfl, rfl⟩ := h; subst h'; rfl
  | (b', c') :: bs, r' :: L, i + 1, b, c, r, h, h' => by simp at h h'; simpa [rowVs] using rowVs_at h h'
theorem rowVs_len : ∀ {bs : List (Nat × Nat)} {L : List (List Int)}, bs.length = L.length → (rowVs bs L).length = L.length
  | [], [], _ => rfl
  | [], _ :: _, h => by simp at h
  | _ :: _, [], h => by simp at h
  | (b, c) :: bs, r :: L, h => by simp [rowVs, rowVs_len (bs := bs) (L := L) (by simpa using h)]
theorem rowVs_snoc : ∀ {bs : List (Nat × Nat)} {L : List (List Int)}, bs.length = L.length → ∀ (b c : Nat) (r : List Int), rowVs bs L ++ [.slice (some ⟨b, 0, none⟩) r.length c] = rowVs (bs ++ [(b, c)]) (L ++ [r])
  | [], [], _, b, c, r => rfl
  | [], _ :: _, h, _, _, _ => by simp at h
  | _ :: _, [], h, _, _, _ => by simp at h
  | (b', c') :: bs, r' :: L, h, b, c, r => by simp [rowVs, rowVs_snoc (bs := bs) (L := L) (by simpa using h) b c r]
theorem rowVs_set : ∀ {bs : List (Nat × Nat)} {L : List (List Int)} {i : Nat} {r r' : List Int}, L[i]? = some r → r'.length = r.length → rowVs bs (L.set i r') = rowVs bs L
  | [], L, _, _, _, _, _ => by cases L <;> simp [rowVs]
  | _ :: _, [], _, _, _, h, _ => by simp at h
  | (b, c) :: bs, x :: L, 0, r, r', h, h' => by simp at h; subst h; simp [rowVs, h']
  | (b, c) :: bs, x :: L, i + 1, r, r', h, h' => by simp at h; simp [rowVs, rowVs_set h h']
/-- rows that a call has made: TR is the type of a row, TI that of an integer -/
structure GridO (w : World) (TI TR : TypeId) (lo g cap : Nat) (bs : List (Nat × Nat)) (L : List (List Int)) : Prop where
  top : OwnV w g TR L.length cap (rowVs bs L)
  len : bs.length = L.length
  row : ∀ (i b c : Nat) (r : List Int), bs[i]? = some (b, c) → L[i]? = some r → Own w b TI 1 r.length c r
  far : ∀ (i b c : Nat), bs[i]? = some (b, c) → lo ≤ b ∧ b ≠ g
  dis : ∀ (i j b c b' c' : Nat), bs[i]? = some (b, c) → bs[j]? = some (b', c') → i ≠ j → b ≠ b'
  low : lo ≤ g
section
variable {w w' : World} {TI TR : TypeId} {lo g cap : Nat} {bs : List (Nat × Nat)} {L : List (List Int)}
theorem GridO.at (h : GridO w TI TR lo g cap bs L) {i : Nat} (hi : i < L.length) : ∃ b c r, bs[i]? = some (b, c) ∧ L[i]? = some r ∧ w.cell? ⟨g, i, none⟩ = some (.slice (some ⟨b, 0, none⟩) r.length c) ∧ Own w b TI 1 r.length c r ∧ lo ≤ b ∧ b ≠ g := by
  have e : L[i]? = some L[i] := List.getElem?_eq_getElem hi
  obtain ⟨⟨b, c⟩, e'⟩ : ∃ x, bs[i]? = some x := ⟨_, List.getElem?_eq_getElem (by rw [h.len]; exact hi)⟩
  exact ⟨b, c, _, e', e, h.top.cells (rowVs_at e' e), h.row i b c _ e' e, (h.far i b c e').1, (h.far i b c e').2⟩
theorem GridO.lt (h : GridO w TI TR lo g cap bs L) : g < w.heap.size := h.top.lt
theorem GridO.block (h : GridO w TI TR lo g cap bs L) (he : ∀ k, lo ≤ k → k < w.heap.size → w'.heap[k]? = w.heap[k]?) : GridO w' TI TR lo g cap bs L :=
  ⟨h.top.block (he g h.low h.top.lt), h.len, fun i b c r hb hr => (h.row i b c r hb hr).block (he b (h.far i b c hb).1 (h.row i b c r hb hr).lt), h.far, h.dis, h.low⟩
theorem GridO.below (h : GridO w TI TR lo g cap bs L) (hb : Below w.heap.size w w') : GridO w' TI TR lo g cap bs L := h.block (fun k _ hk => hb.block _ hk)
theorem GridO.alloc (h : GridO w TI TR lo g cap bs L) (o : Obj) : GridO (w.alloc o) TI TR lo g cap bs L := h.below ((Below.refl _ _).alloc (Nat.le_refl _) _)
theorem GridO.grown {g' : Nat} (h : GridO w TI TR lo g cap bs L) (hg : w.grownBy w' (some g')) (hne : g' < lo) : GridO w' TI TR lo g cap bs L := h.block (fun k hk hl => hg.block k hl (by simp; omega))
theorem GridO.mono {lo' : Nat} (h : GridO w TI TR lo g cap bs L) (hl : lo' ≤ lo) : GridO w TI TR lo' g cap bs L :=
  ⟨h.top, h.len, h.row, fun i b c hb => ⟨Nat.le_trans hl (h.far i b c hb).1, (h.far i b c hb).2⟩, h.dis, Nat.le_trans hl h.low⟩
theorem GridO.read (h : GridO w TI TR lo g cap bs L) : GRead w (some ⟨g, 0, none⟩) L :=
  .inr ⟨g, 0, rfl, h.top.lt, fun i r hi => by
    obtain ⟨b, c, r', h1, h2, h3, h4, h5⟩ := h.at (List.getElem?_eq_some_iff.1 hi).1
    rw [hi] at h2; cases h2
    exact ⟨_, c, by rw [Nat.zero_add]; exact h3, by obtain ⟨cur, _, h6, _⟩ := h4.body; exact h6, h4.ints⟩⟩
/-- a row written -/
theorem GridO.setRow {i b c : Nat} {r r' : List Int} (h : GridO w TI TR lo g cap bs L) (hb : bs[i]? = some (b, c)) (hr : L[i]? = some r) (hl : r'.length = r.length) (ho : Own w' b TI 1 r'.length c r') (hg : w.grownBy w' (some b)) : GridO w' TI TR lo g cap bs (L.set i r') := by
  have hne := (h.far i b c hb).2
  refine ⟨?_, by rw [List.length_set]; exact h.len, fun j b' c' x hb' hx => ?_, h.far, h.dis, h.low⟩
  · rw [List.length_set, rowVs_set hr hl]
    exact h.top.grown hg (Ne.symm hne)
  · by_cases e : j = i
    · subst e
      rw [hb] at hb'; cases hb'
      rw [List.getElem?_set, if_pos rfl, if_pos (List.getElem?_eq_some_iff.1 hr).1] at hx
      cases hx
      exact ho
    · rw [List.getElem?_set, if_neg (Ne.symm e)] at hx
      exact (h.row j b' c' x hb' hx).grown hg (h.dis j i b' c' b c hb' hb e)
/-- an empty one -/
theorem GridO.empty (w : World) (TI TR : TypeId) (lo : Nat) (hlo : lo ≤ w.heap.size) : GridO (w.alloc (.cells #[] TR)) TI TR lo w.heap.size 0 [] [] :=
  ⟨OwnV.empty w TR, rfl, fun i b c r h => by simp at h, fun i b c h => by simp at h, fun i j b c b' c' h => by simp at h, hlo⟩
/-- a row appended: the rows lie as they lay, their list in block g' -/
theorem GridO.snoc {g' cap' b c : Nat} {r : List Int} (h : GridO w TI TR lo g cap bs L) (hg : w.grownBy w' (some g)) (hg' : g' = g ∨ g' = w.heap.size) (ht : OwnV w' g' TR (L.length + 1) cap' (rowVs bs L ++ [.slice (some ⟨b, 0, none⟩) r.length c])) (ho : Own w b TI 1 r.length c r) (hb : lo ≤ b ∧ b ≠ g) (hd : ∀ (i b' c' : Nat), bs[i]? = some (b', c') → b' ≠ b) : GridO w' TI TR lo g' cap' (bs ++ [(b, c)]) (L ++ [r]) := by
  have hlt := h.top.lt
  have hbl := ho.lt
  have hlow := h.low
  have hcase : ∀ (i b' c' : Nat), (bs ++ [(b, c)])[i]? = some (b', c') → (i < bs.length ∧ bs[i]? = some (b', c')) ∨ (i = bs.length ∧ b' = b ∧ c' = c) := fun i b' c' hi => by
    by_cases hl : i < bs.length
    · rw [List.getElem?_append_left hl] at hi
      exact .inl ⟨hl, hi⟩
    · rw [List.getElem?_append_right (by omega)] at hi
      have e : i - bs.length = 0 := by
        have := (List.getElem?_eq_some_iff.1 hi).1
        simp at this; omega
      rw [e] at hi
      simp at hi
      exact .inr ⟨by omega, hi.1.symm, hi.2.symm⟩
  refine ⟨?_, by simp [h.len], fun i b' c' x hi hx => ?_, fun i b' c' hi => ?_, fun i j b1 c1 b2 c2 h1 h2 hij => ?_, by rcases hg' with e | e <;> omega⟩
  · rw [List.length_append, ← rowVs_snoc h.len]; exact ht
  · rcases hcase i b' c' hi with ⟨hl, e⟩ | ⟨hl, rfl, rfl⟩
    · rw [List.getElem?_append_left (by rw [← h.len]; exact hl)] at hx
      exact (h.row i b' c' x e hx).grown hg (h.far i b' c' e).2
    · rw [List.getElem?_append_right (by rw [← h.len]; omega), hl, h.len] at hx
      simp at hx
      subst hx
      exact ho.grown hg hb.2
  · rcases hcase i b' c' hi with ⟨hl, e⟩ | ⟨hl, rfl, rfl⟩
    · have h1 := h.far i b' c' e
      have hx : ∃ x, L[i]? = some x := ⟨_, List.getElem?_eq_getElem (by rw [← h.len]; exact hl)⟩
      obtain ⟨x, hx⟩ := hx
      have h2 := (h.row i b' c' x e hx).lt
      refine ⟨h1.1, ?_⟩
      rcases hg' with e' | e'
      · rw [e']; exact h1.2
      · omega
    · refine ⟨hb.1, ?_⟩
      rcases hg' with e' | e'
      · rw [e']; exact hb.2
      · omega
  · rcases hcase i b1 c1 h1 with ⟨hl, e⟩ | ⟨hl, rfl, rfl⟩
    · rcases hcase j b2 c2 h2 with ⟨hl2, e2⟩ | ⟨hl2, rfl, rfl⟩
      · exact h.dis i j b1 c1 b2 c2 e e2 hij
      · exact hd i b1 c1 e
    · rcases hcase j b2 c2 h2 with ⟨hl2, e2⟩ | ⟨hl2, rfl, rfl⟩
      · exact fun e3 => hd j b2 c2 e2 e3.symm
      · omega
end
end Go.Proofs.YtoaomjchaihkaaaGreatDoor
namespace Go.Proofs.YtoaomjchaihkaaaGreatDoor
set_option linter.unusedVariables false
open Go.RowKit

/-- how many numbers -/
def gsum : List (List Int) → Nat
  | [] => 0
  | r :: L => r.length + gsum L
theorem gsum_append : ∀ (L M : List (List Int)), gsum (L ++ M) = gsum L + gsum M
  | [], M => by simp [gsum]
  | r :: L, M => by rw [List.cons_append, gsum, gsum, gsum_append L M]; omega
theorem gsum_take {L : List (List Int)} {j : Nat} {r : List Int} (h : L[j]? = some r) : gsum (L.take (j + 1)) = gsum (L.take j) + r.length := by
  rw [List.take_add_one, h, gsum_append]; simp [gsum]
theorem gsum_low {L : List (List Int)} {k e : Nat} (hk : L.length ≤ k) (h : ∀ r ∈ L, r.length ≤ e) : gsum L ≤ k * e := by
  induction L generalizing k with
  | nil => simp [gsum]
  | cons r L ih =>
    have h1 := h r (by simp)
    match k, hk with
    | k + 1, hk =>
      have h2 := ih (k := k) (by simpa using hk) (fun x hx => h x (by simp [hx]))
      rw [gsum, Nat.add_mul, Nat.one_mul]; omega
/-- the numbers s, s + 1, .. in place of all -/
def mkG (s : Int) : List (List Int) → List (List Int)
  | [] => []
  | r :: L => (List.range r.length).map (fun i : Nat => s + (i : Int)) :: mkG (s + r.length) L
theorem mkG_len : ∀ (s : Int) (L : List (List Int)), (mkG s L).length = L.length
  | s, [] => rfl
  | s, r :: L => by simp [mkG, mkG_len]
theorem mkG_at : ∀ {s : Int} {L : List (List Int)} {j : Nat} {r : List Int}, L[j]? = some r → (mkG s L)[j]? = some ((List.range r.length).map (fun i : Nat => s + (gsum (L.take j) : Int) + (i : Int)))
  | s, [], j, r, h => by simp at h
  | s, x :: L, 0, r, h => by simp at h; subst h; simp [mkG, gsum]
  | s, x :: L, j + 1, r, h => by
    simp at h
    simp only [mkG, List.getElem?_cons_succ, List.take_succ_cons, gsum]
    rw [mkG_at h]
    congr 2
    funext i
    rw [Int.natCast_add]; omega
/-- the first j rows marked -/
def mkGt (s : Int) (j : Nat) (L : List (List Int)) : List (List Int) := (mkG s L).take j ++ L.drop j
theorem mkGt_zero (s : Int) (L : List (List Int)) : mkGt s 0 L = L := by simp [mkGt]
theorem mkGt_all {s : Int} {L : List (List Int)} : mkGt s L.length L = mkG s L := by
  unfold mkGt; rw [List.take_of_length_le (by rw [mkG_len]; exact Nat.le_refl _), List.drop_of_length_le (Nat.le_refl _), List.append_nil]
theorem mkGt_len {s : Int} {j : Nat} {L : List (List Int)} (h : j ≤ L.length) : (mkGt s j L).length = L.length := by simp [mkGt, mkG_len]; omega
theorem mkGt_at {s : Int} {j : Nat} {L : List (List Int)} {r : List Int} (h : L[j]? = some r) : (mkGt s j L)[j]? = some r := by
  have hl := (List.getElem?_eq_some_iff.1 h).1
  unfold mkGt
  rw [List.getElem?_append_right (by rw [List.length_take, mkG_len]; omega), List.length_take, mkG_len, List.getElem?_drop, show j + (j - min j L.length) = j by omega]
  exact h
theorem mkGt_set {s : Int} {j : Nat} {L : List (List Int)} {r : List Int} (h : L[j]? = some r) : (mkGt s j L).set j ((List.range r.length).map (fun i : Nat => s + (gsum (L.take j) : Int) + (i : Int))) = mkGt s (j + 1) L := by
  have hl := (List.getElem?_eq_some_iff.1 h).1
  refine List.ext_getElem? (fun i => ?_)
  rw [List.getElem?_set, mkGt_len (by omega)]
  unfold mkGt
  by_cases e : j = i
  · subst e
    rw [if_pos rfl, if_pos hl, List.getElem?_append_left (by rw [List.length_take, mkG_len]; omega), List.getElem?_take, if_pos (by omega), mkG_at h]
  · rw [if_neg e]
    by_cases h' : i < j
    · rw [List.getElem?_append_left (by rw [List.length_take, mkG_len]; omega), List.getElem?_append_left (by rw [List.length_take, mkG_len]; omega), List.getElem?_take, if_pos h', List.getElem?_take, if_pos (by omega)]
    · rw [List.getElem?_append_right (by rw [List.length_take, mkG_len]; omega), List.getElem?_append_right (by rw [List.length_take, mkG_len]; omega), List.getElem?_drop, List.getElem?_drop, List.length_take, List.length_take, mkG_len]
      congr 1; omega
/-- a cell of a block of slices written -/
theorem OwnV.set {w : World} {g : Nat} {T : TypeId} {n cap : Nat} {vs : List Value} (h : OwnV w g T n cap vs) (i : Nat) (v : Value) (hi : i < vs.length) : OwnV (w.setCell ⟨g, i, none⟩ v) g T n cap (vs.set i v) := by
  obtain ⟨cur, hg, h1, h2, h3, h4, h5⟩ := h.body
  refine .of (Joins.block_setCell hg _) h1 h2 (by simpa using h3) ?_ (by simpa using h5)
  rw [Array.toList_setIfInBounds, List.take_set, h4]
theorem OwnV.frozen {w : World} {g : Nat} {T : TypeId} {n cap : Nat} {vs : List Value} (h : OwnV w g T n cap vs) (i : Nat) : w.frozen? ⟨g, i, none⟩ = false := by
  obtain ⟨cur, hg, _⟩ := h.body
  exact Joins.unfrozen_of_block hg i
/-- rows that are being filled in: the first ones stand, the others are nil -/
structure GridT (w : World) (TI TR : TypeId) (lo g n : Nat) (bs : List (Nat × Nat)) (L : List (List Int)) : Prop where
  top : OwnV w g TR n n (rowVs bs L ++ List.replicate (n - L.length) (.slice none 0 0))
  len : bs.length = L.length
  row : ∀ (i b c : Nat) (r : List Int), bs[i]? = some (b, c) → L[i]? = some r → Own w b TI 1 r.length c r
  far : ∀ (i b c : Nat), bs[i]? = some (b, c) → lo ≤ b ∧ b ≠ g
  dis : ∀ (i j b c b' c' : Nat), bs[i]? = some (b, c) → bs[j]? = some (b', c') → i ≠ j → b ≠ b'
  low : lo ≤ g
section
variable {w w' : World} {TI TR : TypeId} {lo g n : Nat} {bs : List (Nat × Nat)} {L : List (List Int)}
theorem GridT.done (h : GridT w TI TR lo g n bs L) (hn : L.length = n) : GridO w TI TR lo g n bs L :=
  ⟨by have := h.top; rw [hn, Nat.sub_self, List.replicate_zero, List.append_nil] at this; rw [hn]; exact this, h.len, h.row, h.far, h.dis, h.low⟩
theorem GridT.z (h : GridT w TI TR lo g n bs L) : ∀ (i b c : Nat), bs[i]? = some (b, c) → b < w.heap.size := fun i b c hb => by
  obtain ⟨r, hr⟩ : ∃ r, L[i]? = some r := ⟨_, List.getElem?_eq_getElem (by rw [← h.len]; exact (List.getElem?_eq_some_iff.1 hb).1)⟩
  exact (h.row i b c r hb hr).lt
theorem GridT.below (h : GridT w TI TR lo g n bs L) (hb : Below w.heap.size w w') : GridT w' TI TR lo g n bs L :=
  ⟨h.top.below hb, h.len, fun i b c r h1 h2 => (h.row i b c r h1 h2).below hb, h.far, h.dis, h.low⟩
/-- the next one stored -/
theorem GridT.next {b c : Nat} {r : List Int} (h : GridT w TI TR lo g n bs L) (hn : L.length < n) (ho : Own w b TI 1 r.length c r) (hb : lo ≤ b ∧ b ≠ g) (hd : ∀ (i b' c' : Nat), bs[i]? = some (b', c') → b' ≠ b) :
    GridT (w.setCell ⟨g, L.length, none⟩ (.slice (some ⟨b, 0, none⟩) r.length c)) TI TR lo g n (bs ++ [(b, c)]) (L ++ [r]) := by
  have hcase : ∀ (i b' c' : Nat), (bs ++ [(b, c)])[i]? = some (b', c') → (i < bs.length ∧ bs[i]? = some (b', c')) ∨ (i = bs.length ∧ b' = b ∧ c' = c) := fun i b' c' hi => by
    by_cases hl : i < bs.length
    · rw [List.getElem?_append_left hl] at hi
      exact .inl ⟨hl, hi⟩
    · rw [List.getElem?_append_right (by omega)] at hi
      have e : i - bs.length = 0 := by
        have := (List.getElem?_eq_some_iff.1 hi).1
        simp at this; omega
      rw [e] at hi
      simp at hi
      exact .inr ⟨by omega, hi.1.symm, hi.2.symm⟩
  refine ⟨?_, by simp [h.len], fun i b' c' x hi hx => ?_, fun i b' c' hi => ?_, fun i j b1 c1 b2 c2 h1 h2 hij => ?_, h.low⟩
  · have h1 := h.top.set L.length (.slice (some ⟨b, 0, none⟩) r.length c) (by rw [List.length_append, rowVs_len h.len, List.length_replicate]; omega)
    have e1 : (rowVs bs L ++ List.replicate (n - L.length) (Value.slice none 0 0)).set L.length (.slice (some ⟨b, 0, none⟩) r.length c) = rowVs (bs ++ [(b, c)]) (L ++ [r]) ++ List.replicate (n - (L ++ [r]).length) (.slice none 0 0) := by
      rw [← rowVs_snoc h.len, List.append_assoc]
      rw [List.set_append_right _ _ (by rw [rowVs_len h.len]; exact Nat.le_refl _), rowVs_len h.len, Nat.sub_self]
      congr 1
      rw [List.length_append, List.length_singleton, show n - L.length = (n - (L.length + 1)) + 1 by omega, List.replicate_succ]
      rfl
    rw [e1] at h1
    exact h1
  · rcases hcase i b' c' hi with ⟨hl, e⟩ | ⟨hl, rfl, rfl⟩
    · rw [List.getElem?_append_left (by rw [← h.len]; exact hl)] at hx
      exact (h.row i b' c' x e hx).setOther (a := ⟨g, L.length, none⟩) (h.far i b' c' e).2 _
    · rw [List.getElem?_append_right (by rw [← h.len]; omega), hl, h.len] at hx
      simp at hx
      subst hx
      exact ho.setOther (a := ⟨g, L.length, none⟩) hb.2 _
  · rcases hcase i b' c' hi with ⟨hl, e⟩ | ⟨hl, rfl, rfl⟩
    · exact h.far i b' c' e
    · exact hb
  · rcases hcase i b1 c1 h1 with ⟨hl, e⟩ | ⟨hl, rfl, rfl⟩
    · rcases hcase j b2 c2 h2 with ⟨hl2, e2⟩ | ⟨hl2, rfl, rfl⟩
      · exact h.dis i j b1 c1 b2 c2 e e2 hij
      · exact hd i b1 c1 e
    · rcases hcase j b2 c2 h2 with ⟨hl2, e2⟩ | ⟨hl2, rfl, rfl⟩
      · exact fun e3 => hd j b2 c2 e2 e3.symm
      · omega
end
/-- changed are blocks from lo on and below hi alone -/
def Betw (lo hi : Nat) (w w' : World) : Prop := w.heap.size = w'.heap.size ∧ w'.os = w.os ∧ w'.tape = w.tape ∧ w'.output = w.output ∧ ∀ b, b < w.heap.size → (b < lo ∨ hi ≤ b) → w'.heap[b]? = w.heap[b]?
theorem Betw.refl (lo hi : Nat) (w : World) : Betw lo hi w w := ⟨rfl, rfl, rfl, rfl, fun _ _ _ => rfl⟩
theorem Betw.trans {lo hi : Nat} {a b c : World} (h : Betw lo hi a b) (k : Betw lo hi b c) : Betw lo hi a c :=
  ⟨h.1.trans k.1, k.2.1.trans h.2.1, k.2.2.1.trans h.2.2.1, k.2.2.2.1.trans h.2.2.2.1, fun x hx hh => (k.2.2.2.2 x (by rw [← h.1]; exact hx) hh).trans (h.2.2.2.2 x hx hh)⟩
theorem Betw.below {lo hi : Nat} {w w' : World} (h : Betw lo hi w w') : Below lo w w' := ⟨h.2.1, h.2.2.1, h.2.2.2.1, Nat.le_of_eq h.1, fun i hi => by
  by_cases e : i < w.heap.size
  · exact h.2.2.2.2 i e (.inl hi)
  · rw [Array.getElem?_eq_none (by rw [← h.1]; omega), Array.getElem?_eq_none (by omega)]⟩
theorem Betw.grid {w w' : World} {TI TR : TypeId} {lo hi lo' g cap : Nat} {bs : List (Nat × Nat)} {L : List (List Int)} (h : GridO w TI TR lo' g cap bs L) (hb : Betw lo hi w w') (hl : hi ≤ lo') : GridO w' TI TR lo' g cap bs L :=
  h.block (fun k hk hz => hb.2.2.2.2 k hz (.inr (by omega)))
theorem GridO.under {w w' : World} {TI TR : TypeId} {lo g cap z : Nat} {bs : List (Nat × Nat)} {L : List (List Int)} (h : GridO w TI TR lo g cap bs L) (hb : Below z w w') (hg : g < z) (hz : ∀ (i b c : Nat), bs[i]? = some (b, c) → b < z) : GridO w' TI TR lo g cap bs L :=
  ⟨h.top.block (hb.block _ hg), h.len, fun i b c r h1 h2 => (h.row i b c r h1 h2).block (hb.block _ (hz i b c h1)), h.far, h.dis, h.low⟩
end Go.Proofs.YtoaomjchaihkaaaGreatDoor
namespace Go.Proofs.YtoaomjchaihkaaaGreatDoor
open Go.RowKit
set_option linter.unusedVariables false

/-- a row of a matrix of k rows -/
def rowOk (k : Nat) (r : List Int) : Prop := r.length = k ∧ ∀ x ∈ r, -1000 ≤ x ∧ x ≤ 1000
theorem matOk_rows {L : List (List Int)} {k : Nat} (hk : L.length = k) : matOk L = true ↔ (1 ≤ k ∧ k ≤ 5) ∧ ∀ r ∈ L, rowOk k r := by
  rw [matOk_true, hk]
  exact ⟨fun h => ⟨⟨h.1, h.2.1⟩, h.2.2⟩, fun h => ⟨h.1.1, h.1.2, h.2⟩⟩
theorem matOk_no {L : List (List Int)} {k : Nat} (hk : L.length = k) (h : ¬ ((1 ≤ k ∧ k ≤ 5) ∧ ∀ r ∈ L, rowOk k r)) : matOk L = false := by
  cases hm : matOk L
  · rfl
  · exact absurd ((matOk_rows hk).1 hm) h
end Go.Proofs.YtoaomjchaihkaaaGreatDoor
namespace Go.Proofs.YtoaomjchaihkaaaGreatDoor
open Go.RowKit
set_option linter.unusedVariables false

theorem info_ints : (Tryz.prog.info? 30).map (fun i => (i.zero, i.size, i.bytes)) = some (some (.slice none 0 0), 1, 24) := by kernel_rfl
theorem GridO.z {w : World} {TI TR : TypeId} {lo g cap : Nat} {bs : List (Nat × Nat)} {L : List (List Int)} (h : GridO w TI TR lo g cap bs L) : ∀ (i b c : Nat), bs[i]? = some (b, c) → b < w.heap.size := fun i b c hb => by
  have hl : i < L.length := by rw [← h.len]; exact (List.getElem?_eq_some_iff.1 hb).1
  exact (h.row i b c _ hb (List.getElem?_eq_getElem hl)).lt
theorem GridO.push {w w' : World} {TI TR : TypeId} {lo g cap : Nat} {bs : List (Nat × Nat)} {L : List (List Int)} {j x g' cap' b c : Nat} {row : List Int} (h : GridO w TI TR lo g cap bs L) (hj : L.length = j) (hx : row.length = x) (hg : w.grownBy w' (some g)) (hg' : g' = g ∨ g' = w.heap.size) (ht : OwnV w' g' TR (j + 1) cap' (rowVs bs L ++ [.slice (some ⟨b, 0, none⟩) x c])) (ho : Own w b TI 1 x c row) (hb : lo ≤ b ∧ b ≠ g) (hd : ∀ (i b' c' : Nat), bs[i]? = some (b', c') → b' ≠ b) : GridO w' TI TR lo g' cap' (bs ++ [(b, c)]) (L ++ [row]) := by
  subst hj hx
  exact h.snoc hg hg' ht ho hb hd
theorem add_flat (B o j : Nat) : (⟨B, o, none⟩ : Addr).add j = ⟨B, o + j, none⟩ := by
  unfold Addr.add
  split
  · next h => simp_all
  · rfl
theorem ints_cellsA {w : World} {ad : Addr} {r : List Int} (h : Ints w (some ad) r) : ∀ (j : Nat) (z : Int), r[j]? = some z → w.cell? (ad.add j) = some (.int .i64 z) := by
  intro j z hz
  obtain ⟨B', o', z', e1, e2, _, e3⟩ := h.at (i := j) (List.getElem?_eq_some_iff.1 hz).1
  cases e1
  rw [hz] at e2; cases e2
  rw [add_flat]; exact e3
theorem ints_cellsT {w : World} {B o : Nat} {r : List Int} (n : Nat) (h : Ints w (some ⟨B, o, none⟩) r) : ∀ (j : Nat) (z : Int), (r.take n)[j]? = some z → w.cell? ((⟨B, o, none⟩ : Addr).add j) = some (.int .i64 z) := by
  intro j z hz
  rw [List.getElem?_take] at hz
  split at hz
  · exact ints_cellsA h j z hz
  · cases hz
theorem ints_cellsD {w : World} {B o : Nat} {r : List Int} (n : Nat) (h : Ints w (some ⟨B, o, none⟩) r) : ∀ (j : Nat) (z : Int), (r.drop n)[j]? = some z → w.cell? ((⟨B, o + n, none⟩ : Addr).add j) = some (.int .i64 z) := by
  intro j z hz
  rw [List.getElem?_drop] at hz
  have := ints_cellsA h (n + j) z hz
  have e : (⟨B, o + n, none⟩ : Addr).add j = (⟨B, o, none⟩ : Addr).add (n + j) := by rw [add_flat, add_flat, Nat.add_assoc]
  rw [e]; exact this
theorem cutL_row {j x : Nat} {L : List (List Int)} {r : List Int} (h : L[x + 1]? = some r) : (cutL L j)[x]? = some (r.take j ++ r.drop (j + 1)) := by
  unfold cutL
  rw [List.getElem?_map, List.getElem?_drop, Nat.add_comm 1 x, h]; rfl
set_option maxHeartbeats 4000000 in
set_option maxRecDepth 100000 in
theorem sWithout (n c j : Nat) (p : Option Addr) (L : List (List Int)) (w : World) (h : GRead w p L) (hs : Sq (n + 1) L) (h5 : n + 1 ≤ 5) (hj : j < n + 1) :
    Calls Tryz.prog 113 #[.slice p (n + 1) c, .int .i64 j] w fun e w' => ∃ g d, e = .returned (.slice (some ⟨g, 0, none⟩) n d) ∧ GRead w' (some ⟨g, 0, none⟩) (cutL L j) ∧ Below w.heap.size w w' := by
  have H := Lib.hid (And.intro h hs)
  have hcl : (cutL L j).length = n := (cut_sq hs hj).1
  have HE := Lib.hid (GridO.empty w 3 30 w.heap.size (Nat.le_refl _))
  clear h hs
  go_enter Tryz.func113, Tryz.ntmps113
  go_wp2_with fail
  go_loopw [5, 6] (fun v i wr => ∃ (x g cap : Nat) (bs : List (Nat × Nat)), x ≤ n ∧ i = .int .i64 (x + 1) ∧ v = .slice (some ⟨g, 0, none⟩) x cap ∧ GridO wr 3 30 w.heap.size g cap bs ((cutL L j).take x) ∧ Below w.heap.size w wr) (fun _ i _ => n + 1 - (intOf i).toNat)
  case atStart => exact ⟨0, _, _, _, Nat.zero_le _, rfl, rfl, HE.out, (by repeat (first | assumption | exact Below.refl _ _ | (refine below_chain ?_ (by assumption) (by first | omega | (simp <;> omega) | simp)) | (refine Below.alloc ?_ (by first | omega | (simp <;> omega) | simp) _) | (apply below_drewN) | (apply below_drew) | (refine Below.setCell ?_ (by first | omega | (simp <;> omega) | simp) _)))⟩
  case round =>
    clear HE
    rename World => wr
    obtain ⟨x, g, cap, bs, hx, rfl, rfl, hg, hbr⟩ := hrel
    have hbs := hbr.size
    have hlg := hg.lt
    by_cases hlt : x < n
    · have hlt' : (x : Int) + 1 < (n : Int) + 1 := by omega
      obtain ⟨B, o, r, q1, cq, rfl, hr, hB, e0, hcq, hi⟩ := (H.out.1.below hbr).at (i := x + 1) (by rw [H.out.2.1]; omega)
      have hrl : r.length = n + 1 := H.out.2.2 r (List.mem_of_getElem? hr)
      rw [hrl] at e0 hcq
      obtain ⟨A, oA, rfl, hA, hcell⟩ : ∃ A oA, q1 = some ⟨A, oA, none⟩ ∧ A < wr.heap.size ∧ Ints wr (some ⟨A, oA, none⟩) r := by
        rcases hi with h | ⟨A, oA, rfl, hA, hh⟩
        · rw [h] at hrl; simp at hrl
        · exact ⟨A, oA, rfl, hA, .inr ⟨A, oA, rfl, hA, hh⟩⟩
      have HR := Lib.hid (And.intro hcell (And.intro hr hrl))
      have HG := Lib.hid (And.intro hg hbr)
      have hzb := hg.z
      have HZ := Lib.hid hzb
      have e0' : wr.cell? ⟨B, o + 1 + x, none⟩ = some (.slice (some ⟨A, oA, none⟩) (n + 1) cq) := by rw [Nat.add_assoc, Nat.add_comm 1 x]; exact e0
      clear hi hcell hr hrl hg hbr hzb
      go_upto_region 6 with (at_builtin; refine wp_append _ rfl _ _ 30 rfl 3 _ 1 8 Tryz.underlying30 info_int rfl (by decide) (by decide) _ 0 0 [] rfl (Own.empty _ _ _) _ _ _ (r.take j) rfl (by rw [List.length_take, HR.out.2.2, Nat.mul_one]; omega) (ints_cellsT j (HR.out.1.alloc _)) (by omega) ?_; intro g1 d1 w1 hown hg1 hloc hsz1; have HN := Lib.hid (And.intro hown (And.intro hg1 hloc)); clear hown hg1 hloc; simp only [Nat.zero_add])
      obtain ⟨hown, hg1, hloc⟩ := HN.out
      rw [Nat.zero_add, List.nil_append] at hown
      have hb1 : Below wr.heap.size wr w1 := below_gr ((Below.refl wr.heap.size wr).alloc (Nat.le_refl _) _) hg1 (Nat.le_refl _) (by simp)
      have hg1l : wr.heap.size ≤ g1 := by
        rcases hloc with e | e
        · omega
        · simp at e; omega
      have hz1 := hb1.size
      have hl1 := hown.lt
      have e5 := (hb1.cell (p := ⟨B, o + (x + 1), none⟩) hB).trans e0
      have HX := Lib.hid (And.intro hown (And.intro (HG.out.1.below hb1) (And.intro (HG.out.2.trans (hb1.mono hbs)) (HR.out.1.below hb1))))
      have hdl : (r.drop (j + 1)).length = n - j := by rw [List.length_drop, HR.out.2.2]; omega
      have hxl : ((cutL L j).take x).length = x := by rw [List.length_take]; omega
      have hrow : (r.take j ++ r.drop (j + 1)).length = n := by rw [List.length_append, hdl, List.length_take, HR.out.2.2]; omega
      have hjn : j + (n - j) = n := by omega
      clear hown hg1 hloc HN hb1 hsz1 e0 e0'
      have hcs : cq = j + 1 ∨ ¬ cq = j + 1 := Classical.em _
      rcases hcs with hcj | hcj
      all_goals (
        go_wp2_with (first
          | (at_builtin; refine wp_append _ rfl _ _ 30 rfl 3 _ 1 8 Tryz.underlying30 info_int rfl (by decide) (by decide) g1 j d1 _ rfl HX.out.1 _ _ _ (r.drop (j + 1)) rfl (by rw [hdl, Nat.mul_one]) (by first | exact ints_cellsD (j + 1) HX.out.2.2.2 | (intro y z hz; have := (List.getElem?_eq_some_iff.1 hz).1; omega)) (by omega) ?_; intro g2 d2 w2 hown2 hg2 hloc2 hsz2; have HN2 := Lib.hid (And.intro hown2 (And.intro hg2 hloc2)); clear hown2 hg2 hloc2; have hT2 := Lib.hid (HX.out.2.1.under (below_gr (Below.refl _ _) HN2.out.2.1 hg1l hz1) hlg HZ.out); simp only [hjn])
          | (at_builtin; refine wp_appendV _ rfl _ _ 63 rfl 30 _ 24 Tryz.underlying63 info_ints rfl (by decide) g x cap (rowVs bs ((cutL L j).take x)) rfl (by have := (hT2.out.alloc (.cells #[.slice (some ⟨g2, 0, none⟩) n d2] 30)).top; rw [hxl] at this; exact this) ⟨w2.heap.size, 0, none⟩ 1 1 [.slice (some ⟨g2, 0, none⟩) n d2] rfl rfl (cell_one_new w2 _ _) (by intro u hu; simp at hu; subst hu; rfl) (by omega) ?_; intro g3 d3 w3 hown3 hg3 hloc3 hsz3; have HN3 := Lib.hid (And.intro hown3 (And.intro hg3 hloc3)); clear hown3 hg3 hloc3))
        obtain ⟨hown3, hg3, hloc3⟩ := HN3.out
        obtain ⟨hown2, hg2, hloc2⟩ := HN2.out
        rw [hjn] at hown2
        have hg2l : wr.heap.size ≤ g2 := by rcases hloc2 with e | e <;> omega
        have hgg := (hT2.out.alloc (.cells #[.slice (some ⟨g2, 0, none⟩) n d2] 30)).push hxl (row := r.take j ++ r.drop (j + 1)) hrow hg3 hloc3 hown3 (hown2.alloc _) ⟨by omega, by omega⟩ (fun i b' c' hb' e => by have := HZ.out i b' c' hb'; omega)
        have htk : (cutL L j).take x ++ [r.take j ++ r.drop (j + 1)] = (cutL L j).take (x + 1) := by rw [List.take_add_one, cutL_row HR.out.2.1]; rfl
        rw [htk] at hgg
        exact ⟨⟨x + 1, g3, d3, _, by omega, by go_num, rfl, hgg, below_gr ((below_gr HX.out.2.2.1 hg2 (by omega) (by omega)).alloc (by omega) _) hg3 HG.out.1.low (by simp; omega)⟩, by simp [intOf]; omega⟩)
    · have e : x = n := by omega
      subst e
      rw [List.take_of_length_le (by omega)] at hg
      have HX := Lib.hid (And.intro hg.read hbr)
      clear hg hbr
      go_wp2_with fail
      go_ret
      exact ⟨_, _, rfl, HX.out.1, HX.out.2⟩
end Go.Proofs.YtoaomjchaihkaaaGreatDoor
namespace Go.Proofs.YtoaomjchaihkaaaGreatDoor
open Go.RowKit
set_option linter.unusedVariables false

theorem det_small : ∀ {n : Nat} {a : Mx}, n ≤ 4 → SmE n 1000 a → -24000000000000 ≤ det n a ∧ det n a ≤ 24000000000000 := by
  intro n a hn h
  have h1 := det_abs (by omega) n a h
  match n, hn with
  | 0, _ => simp [fct, pw] at h1; omega
  | 1, _ => simp [fct, pw] at h1; omega
  | 2, _ => simp [fct, pw] at h1; omega
  | 3, _ => simp [fct, pw] at h1; omega
  | 4, _ => simp [fct, pw] at h1; omega
/-- a summand of the determinant -/
def dterm (n : Nat) (a : Mx) (j : Nat) : Int := sgj j * a 0 j * det n (mnr a j)
theorem dterm_low {n j : Nat} {a : Mx} (hn : n ≤ 4) (h : SmE (n + 1) 1000 a) (hj : j < n + 1) : -24000000000000000 ≤ dterm n a j ∧ dterm n a j ≤ 24000000000000000 := by
  have h1 := det_small hn (a := mnr a j) (fun i k hi hk => h (i + 1) (skip j k) (by omega) (skip_lt hk hj))
  have h2 := h 0 j (by omega) hj
  have h3 : -1000 ≤ sgj j * a 0 j ∧ sgj j * a 0 j ≤ 1000 := by unfold sgj; split <;> omega
  have := abs_mul (x := 1000) (y := 24000000000000) h3 h1
  unfold dterm
  omega
theorem det_terms (n : Nat) (a : Mx) : det (n + 1) a = smn (n + 1) (dterm n a) := rfl
set_option maxHeartbeats 4000000 in
set_option maxRecDepth 100000 in
theorem sDet : ∀ (n c : Nat) (p : Option Addr) (L : List (List Int)) (w : World), GRead w p L → Sq n L → n ≤ 5 → SmE n 1000 (ent L) →
    Calls Tryz.prog 80 #[.slice p n c] w fun e w' => e = .returned (.int .i64 (det n (ent L))) ∧ Below w.heap.size w w'
  | 0, c, p, L, w, _, _, _, _ => by
    go_enter Tryz.func80, Tryz.ntmps80
    go_wp2_with fail
    go_ret
    exact ⟨rfl, Below.refl _ _⟩
  | n + 1, c, p, L, w, h, hs, h5, hm => by
    have ih := fun c p L w h hs hm => Lib.hid (sDet n c p L w h hs (by omega) hm)
    have H := Lib.hid (And.intro h (And.intro hs hm))
    have hn5 : n ≤ 4 := by omega
    have hn0 : ((n : Int) + 1 == 0) = false := by
      have : ¬ ((n : Int) + 1 = 0) := by omega
      simpa using this
    clear h hs hm
    go_enter Tryz.func80, Tryz.ntmps80
    go_wp2_with fail
    go_loopw [3, 4, 5] (fun s g i wr => ∃ j : Nat, j ≤ n + 1 ∧ i = .int .i64 j ∧ s = .int .i64 (smn j (dterm n (ent L))) ∧ g = .int .i64 (sgj j) ∧ Below w.heap.size w wr) (fun _ _ i _ => n + 1 - (intOf i).toNat)
    case atStart => exact ⟨0, Nat.zero_le _, rfl, rfl, rfl, Below.refl _ _⟩
    case round =>
      obtain ⟨j, hj, rfl, rfl, rfl, hbr⟩ := hrel
      have hbs := hbr.size
      have hsb := sm_abs (n := j) (f := dterm n (ent L)) (c := 24000000000000000) (fun i hi => dterm_low hn5 H.out.2.2 (by omega))
      obtain ⟨s, hs⟩ : ∃ s, smn j (dterm n (ent L)) = s := ⟨_, rfl⟩
      obtain ⟨σ, hσ⟩ : ∃ σ, sgj j = σ := ⟨_, rfl⟩
      have hσb : -1 ≤ σ ∧ σ ≤ 1 := by rw [← hσ]; unfold sgj; split <;> omega
      rw [hs] at hsb ⊢
      rw [hσ]
      have hsb2 : -144000000000000000 ≤ s ∧ s ≤ 144000000000000000 := by omega
      obtain ⟨s0, s1⟩ := hsb2
      obtain ⟨σ0, σ1⟩ := hσb
      clear hsb
      by_cases hlt : j < n + 1
      · obtain ⟨B, o, r, q, cq, rfl, hr, hB, e0, hcq, hi⟩ := (H.out.1.below hbr).at (i := 0) (by rw [H.out.2.1.1]; omega)
        have hrl : r.length = n + 1 := H.out.2.1.2 r (List.mem_of_getElem? hr)
        rw [hrl] at e0 hcq
        obtain ⟨A, oA, z, rfl, hz, hA, e1⟩ := hi.at (i := j) (by rw [hrl]; exact hlt)
        have hze : ent L 0 j = z := by unfold ent; rw [rowL_at hr, num_at hz]
        have hzb := H.out.2.2 0 j (by omega) hlt
        rw [hze] at hzb
        obtain ⟨z0, z1⟩ := hzb
        have hlt' : (j : Int) < (n : Int) + 1 := by omega
        rw [Nat.add_zero] at e0
        have hsm : SmE n 1000 (mnr (ent L) j) := fun i k hi hk => H.out.2.2 (i + 1) (skip j k) (by omega) (skip_lt hk hlt)
        obtain ⟨D, hD⟩ : ∃ D, det n (mnr (ent L) j) = D := ⟨_, rfl⟩
        have hDb := det_small hn5 hsm
        rw [hD] at hDb
        have hT : dterm n (ent L) j = σ * z * D := by unfold dterm; rw [hσ, hze, hD]
        have hTb := dterm_low (n := n) (a := ent L) hn5 H.out.2.2 hlt
        rw [hT] at hTb
        have hPb : -1000 ≤ σ * z ∧ σ * z ≤ 1000 := by
          have := abs_mul (x := 1) (y := 1000) ⟨σ0, σ1⟩ ⟨z0, z1⟩; omega
        by_cases hz0 : z = 0
        · subst hz0
          have HN : Hid (smn (j + 1) (dterm n (ent L)) = s ∧ sgj (j + 1) = -σ) := Lib.hid ⟨by simp only [smn]; rw [hs, hT]; simp, by rw [sg_succ, hσ]⟩
          clear hs hσ hr hrl hz hze hsm hD hDb hT hTb hPb hi
          go_wp2_with fail
          go_roundw
          case rel => exact ⟨j + 1, by omega, by go_num, by rw [HN.out.1], by rw [HN.out.2], hbr⟩
          case measure => simp [intOf]; omega
        · have HN : Hid (smn (j + 1) (dterm n (ent L)) = s + σ * z * D ∧ sgj (j + 1) = -σ) := Lib.hid ⟨by simp only [smn]; rw [hs, hT], by rw [sg_succ, hσ]⟩
          have c1 := fun w h => Lib.hid (sWithout n c j (some ⟨B, o, none⟩) L w h H.out.2.1 h5 hlt)
          have c2 := fun c p w h => Lib.hid (ih c p (cutL L j) w h (cut_sq H.out.2.1 hlt) (fun i k hi hk => by rw [ent_cut H.out.2.1 hlt hi]; exact hsm i k hi hk)).out
          have e3 : det n (ent (cutL L j)) = D := by rw [det_cut H.out.2.1 hlt, hD]
          rw [e3] at c2
          have HGr := Lib.hid (H.out.1.below hbr)
          have hz0' : (z == 0) = false := by simpa using hz0
          obtain ⟨D0, D1⟩ := hDb
          obtain ⟨T0, T1⟩ := hTb
          obtain ⟨P0, P1⟩ := hPb
          clear hs hσ hr hrl hz hze hsm hD hT hi e3 ih
          go_wp2_with fail
          go_region_held3 (fun W => W.cell? ⟨B, o, none⟩ = some (.slice (some ⟨A, oA, none⟩) (n + 1) cq) ∧ W.cell? ⟨A, oA + j, none⟩ = some (.int .i64 z)) (first | (go_keep; done) | (go_split_ands; refine ⟨?_, ?_⟩ <;> (repeat (first | with_reducible assumption | (with_reducible refine cell_below_keep (by with_reducible assumption) ?_) | (with_reducible refine cell_drew_keep ?_)))))
            (first
              | (go_at_call 113; (with_reducible refine ((c1 _ ?_).out).mono ?_); (focus (exact HGr.out; done)); rintro e w2 ⟨g2, d2, rfl, hg2, hb_w2⟩; have HG2 := Lib.hid hg2; clear hg2)
              | (go_at_call 80; (with_reducible refine ((c2 _ _ _ ?_).out).mono ?_); (focus (exact HG2.out; done)); rintro e w3 ⟨rfl, hb_w3⟩))
          have q1 : IntKind.i64.wrap (σ * z) = σ * z := by rw [IntKind.wrap_i64]; omega
          have q2 : IntKind.i64.wrap (σ * z * D) = σ * z * D := by rw [IntKind.wrap_i64]; omega
          have q3 : IntKind.i64.wrap (s + σ * z * D) = s + σ * z * D := by rw [IntKind.wrap_i64]; omega
          rw [q1, q2, q3]
          clear q1 q2 q3
          have hBB := Lib.hid ((below_drew hbr).trans ((hb_w2.trans (hb_w3.mono hb_w2.size)).mono hbs))
          obtain ⟨y, hy⟩ : ∃ y, s + σ * z * D = y := ⟨_, rfl⟩
          rw [hy] at HN ⊢
          clear hy T0 T1 P0 P1
          go_wp2_with fail
          go_roundw
          case rel => exact ⟨j + 1, by omega, by go_num, by rw [HN.out.1], by rw [HN.out.2], hBB.out⟩
          case measure => simp [intOf]; omega
      · have e : j = n + 1 := by omega
        subst e
        have HN : Hid (det (n + 1) (ent L) = s) := Lib.hid (by rw [det_terms, hs])
        clear hs hσ
        go_wp2_with fail
        go_ret
        exact ⟨ret_int HN.out.symm, hbr⟩
end Go.Proofs.YtoaomjchaihkaaaGreatDoor
namespace Go.Proofs.YtoaomjchaihkaaaGreatDoor
open Go.RowKit
set_option linter.unusedVariables false

theorem info_intsJ : (Tryz.prog.info? 30).map (fun i => (i.zero, i.size, i.bytes)) = some (some (.slice none 0 0), 1, 24) := by kernel_rfl
theorem made_rows (w : World) (n : Nat) (hn : n ≤ 1048576) : (Instr.makeSlice 63 (.int .i64 (n : Int)) (.int .i64 (n : Int))).run Tryz.prog w = .ok (.slice (some ⟨w.heap.size, 0, none⟩) n n) (w.alloc (.cells (madeCells (Array.replicate 1 (.slice none 0 0)) (n * 1)) 30)) := by
  obtain ⟨i, hi, hzz⟩ := Option.map_eq_some_iff.1 info_intsJ
  simp only [Prod.mk.injEq] at hzz
  obtain ⟨hz, hs, hb⟩ := hzz
  have := run_make (P := Tryz.prog) w 63 30 i _ Tryz.underlying63 hi hz .i64 .i64 n n (by omega) (Int.le_refl _) (by rw [hb]; omega) (by omega)
  simp only [Int.toNat_natCast, hs] at this
  exact this
theorem GridT.made (w : World) (TI TR : TypeId) (n : Nat) (hn : n ≤ 1048576) : GridT (w.alloc (.cells (madeCells (Array.replicate 1 (.slice none 0 0)) (n * 1)) TR)) TI TR w.heap.size w.heap.size n [] [] := by
  refine ⟨.of (Deep.blk_alloc_new _ _) (Nat.le_refl _) (by unfold maxLen; omega) (size_madeCells _ _) ?_ (by simp [rowVs]), rfl, fun i b c r h => by simp at h, fun i b c h => by simp at h, fun i j b c b' c' h => by simp at h, Nat.le_refl _⟩
  rw [List.take_of_length_le (by simp [size_madeCells])]
  refine List.ext_getElem? (fun i => ?_)
  by_cases h : i < n
  · simp [madeCells, rowVs, h, Nat.mod_one]
  · simp [madeCells, rowVs, h]
end Go.Proofs.YtoaomjchaihkaaaGreatDoor
namespace Go.Proofs.YtoaomjchaihkaaaGreatDoor
open Go.RowKit
set_option linter.unusedVariables false

theorem grew.betw {w w' : World} {g lo hi : Nat} (h : grew w w' g) (h1 : lo ≤ g) (h2 : g < hi) : Betw lo hi w w' :=
  ⟨h.2.symm, h.1.os, h.1.tape, h.1.output, fun b hb hh => h.1.block b hb (by simp; omega)⟩
/-- the length of what a mark has come to -/
theorem gsum_small {L : List (List Int)} (hl : L.length ≤ 1048576) (hr : ∀ r ∈ L, r.length ≤ 1048576) (j : Nat) : gsum (L.take j) ≤ 1099511627776 := by
  have := gsum_low (L := L.take j) (k := 1048576) (e := 1048576) (by rw [List.length_take]; omega) (fun r h => hr r (List.mem_of_mem_take h))
  omega
theorem Own.betw {w w' : World} {g lo hi sz n cap : Nat} {T : TypeId} {xs : List Int} (h : Own w g T sz n cap xs) (hb : Betw lo hi w w') (hg : hi ≤ g) : Own w' g T sz n cap xs := h.block (hb.2.2.2.2 g h.lt (.inr hg))
end Go.Proofs.YtoaomjchaihkaaaGreatDoor
namespace Go.Proofs.YtoaomjchaihkaaaGreatDoor
open Go.RowKit
set_option linter.unusedVariables false

end Go.Proofs.YtoaomjchaihkaaaGreatDoor
namespace Go.Proofs.YtoaomjchaihkaaaGreatDoor
open Go.RowKit
set_option linter.unusedVariables false

end Go.Proofs.YtoaomjchaihkaaaGreatDoor
