/-
  Lists of lists of integers in memory: as they are read, and as a call has made them, each row in a block of its own. No function of the program is named.
-/
import Derived.Test.YthpfhbogpnhgmaaUo
namespace Go.Proofs.Ythpfhbogpnhgmaa
set_option linter.unusedVariables false
open Go.RowKit

/-- what a slice of slices reads as -/
def GRead (w : World) (p : Option Addr) (L : List (List Int)) : Prop :=
  L = [] ∨ ∃ B o, p = some ⟨B, o, none⟩ ∧ B < w.heap.size ∧ ∀ (i : Nat) (r : List Int), L[i]? = some r → ∃ q c, w.cell? ⟨B, o + i, none⟩ = some (.slice q r.length c) ∧ r.length ≤ c ∧ Ints w q r
theorem GRead.below {w w' : World} {p : Option Addr} {L : List (List Int)} (h : GRead w p L) (hb : Below w.heap.size w w') : GRead w' p L := by
  rcases h with h | ⟨B, o, hp, hB, hx⟩
  · exact .inl h
  · refine .inr ⟨B, o, hp, by have := hb.size; omega, fun i r hi => ?_⟩
    obtain ⟨q, c, h1, h3, h2⟩ := hx i r hi
    exact ⟨q, c, (hb.cell (p := ⟨B, o + i, none⟩) hB).trans h1, h3, h2.below hb⟩
theorem GRead.alloc {w : World} {p : Option Addr} {L : List (List Int)} (h : GRead w p L) (o : Obj) : GRead (w.alloc o) p L := h.below ((Below.refl _ _).alloc (Nat.le_refl _) _)
theorem GRead.drewN {w : World} {p : Option Addr} {L : List (List Int)} (h : GRead w p L) (n : Nat) : GRead (w.drewN n) p L := h
theorem GRead.at {w : World} {p : Option Addr} {L : List (List Int)} (h : GRead w p L) {i : Nat} (hi : i < L.length) : ∃ B o r q c, p = some ⟨B, o, none⟩ ∧ L[i]? = some r ∧ B < w.heap.size ∧ w.cell? ⟨B, o + i, none⟩ = some (.slice q r.length c) ∧ r.length ≤ c ∧ Ints w q r := by
  rcases h with h | ⟨B, o, hp, hB, hx⟩
  · subst h; simp at hi
  · have e : L[i]? = some L[i] := List.getElem?_eq_getElem hi
    obtain ⟨q, c, h1, h3, h2⟩ := hx i _ e
    exact ⟨B, o, _, q, c, hp, e, hB, h1, h3, h2⟩

/-- the values of rows in blocks -/
def rowVs : List (Nat × Nat) → List (List Int) → List Value
  | (b, c) :: bs, r :: L => .slice (some ⟨b, 0, none⟩) r.length c :: rowVs bs L
  | _, _ => []
theorem rowVs_at : ∀ {bs : List (Nat × Nat)} {L : List (List Int)} {i b c : Nat} {r : List Int}, bs[i]? = some (b, c) → L[i]? = some r → (rowVs bs L)[i]? = some (.slice (some ⟨b, 0, none⟩) r.length c)
  | [], _, _, _, _, _, h, _ => by simp at h
  | _ :: _, [], _, _, _, _, _, h => by simp at h
  | (b', c') :: bs, r' :: L, 0, b, c, r, h, h' => by simp at h h'; obtain ⟨rfl, rfl⟩ := h; subst h'; rfl
  | (b', c') :: bs, r' :: L, i + 1, b, c, r, h, h' => by simp at h h'; simpa [rowVs] using rowVs_at h h'
theorem rowVs_len : ∀ {bs : List (Nat × Nat)} {L : List (List Int)}, bs.length = L.length → (rowVs bs L).length = L.length
  | [], [], _ => rfl
  | [], _ :: _, h => by simp at h
  | _ :: _, [], h => by simp at h
  | (b, c) :: bs, r :: L, h => by simp [rowVs, rowVs_len (bs := bs) (L := L) (by simpa using h)]
theorem rowVs_snoc : ∀ {bs : List (Nat × Nat)} {L : List (List Int)}, bs.length = L.length → ∀ (b c : Nat) (r : List Int), rowVs bs L ++ [.slice (some ⟨b, 0, none⟩) r.length c] = rowVs (bs ++ [(b, c)]) (L ++ [r])
  | [], [], _, b, c, r => rfl
  | [], _ :: _, h, _, _, _ => by simp at h
  | _ :: _, [], h, _, _, _ => by simp at h
  | (b', c') :: bs, r' :: L, h, b, c, r => by simp [rowVs, rowVs_snoc (bs := bs) (L := L) (by simpa using h) b c r]
theorem rowVs_set : ∀ {bs : List (Nat × Nat)} {L : List (List Int)} {i : Nat} {r r' : List Int}, L[i]? = some r → r'.length = r.length → rowVs bs (L.set i r') = rowVs bs L
  | [], L, _, _, _, _, _ => by cases L <;> simp [rowVs]
  | _ :: _, [], _, _, _, h, _ => by simp at h
  | (b, c) :: bs, x :: L, 0, r, r', h, h' => by simp at h; subst h; simp [rowVs, h']
  | (b, c) :: bs, x :: L, i + 1, r, r', h, h' => by simp at h; simp [rowVs, rowVs_set h h']
/-- rows that a call has made: TR is the type of a row, TI that of an integer -/
structure GridO (w : World) (TI TR : TypeId) (lo g cap : Nat) (bs : List (Nat × Nat)) (L : List (List Int)) : Prop where
  top : OwnV w g TR L.length cap (rowVs bs L)
  len : bs.length = L.length
  row : ∀ (i b c : Nat) (r : List Int), bs[i]? = some (b, c) → L[i]? = some r → Own w b TI 1 r.length c r
  far : ∀ (i b c : Nat), bs[i]? = some (b, c) → lo ≤ b ∧ b ≠ g
  dis : ∀ (i j b c b' c' : Nat), bs[i]? = some (b, c) → bs[j]? = some (b', c') → i ≠ j → b ≠ b'
  low : lo ≤ g
section
variable {w w' : World} {TI TR : TypeId} {lo g cap : Nat} {bs : List (Nat × Nat)} {L : List (List Int)}
theorem GridO.at (h : GridO w TI TR lo g cap bs L) {i : Nat} (hi : i < L.length) : ∃ b c r, bs[i]? = some (b, c) ∧ L[i]? = some r ∧ w.cell? ⟨g, i, none⟩ = some (.slice (some ⟨b, 0, none⟩) r.length c) ∧ Own w b TI 1 r.length c r ∧ lo ≤ b ∧ b ≠ g := by
  have e : L[i]? = some L[i] := List.getElem?_eq_getElem hi
  obtain ⟨⟨b, c⟩, e'⟩ : ∃ x, bs[i]? = some x := ⟨_, List.getElem?_eq_getElem (by rw [h.len]; exact hi)⟩
  exact ⟨b, c, _, e', e, h.top.cells (rowVs_at e' e), h.row i b c _ e' e, (h.far i b c e').1, (h.far i b c e').2⟩
theorem GridO.lt (h : GridO w TI TR lo g cap bs L) : g < w.heap.size := h.top.lt
theorem GridO.block (h : GridO w TI TR lo g cap bs L) (he : ∀ k, lo ≤ k → k < w.heap.size → w'.heap[k]? = w.heap[k]?) : GridO w' TI TR lo g cap bs L :=
  ⟨h.top.block (he g h.low h.top.lt), h.len, fun i b c r hb hr => (h.row i b c r hb hr).block (he b (h.far i b c hb).1 (h.row i b c r hb hr).lt), h.far, h.dis, h.low⟩
theorem GridO.below (h : GridO w TI TR lo g cap bs L) (hb : Below w.heap.size w w') : GridO w' TI TR lo g cap bs L := h.block (fun k _ hk => hb.block _ hk)
theorem GridO.alloc (h : GridO w TI TR lo g cap bs L) (o : Obj) : GridO (w.alloc o) TI TR lo g cap bs L := h.below ((Below.refl _ _).alloc (Nat.le_refl _) _)
theorem GridO.grown {g' : Nat} (h : GridO w TI TR lo g cap bs L) (hg : w.grownBy w' (some g')) (hne : g' < lo) : GridO w' TI TR lo g cap bs L := h.block (fun k hk hl => hg.block k hl (by simp; omega))
theorem GridO.mono {lo' : Nat} (h : GridO w TI TR lo g cap bs L) (hl : lo' ≤ lo) : GridO w TI TR lo' g cap bs L :=
  ⟨h.top, h.len, h.row, fun i b c hb => ⟨Nat.le_trans hl (h.far i b c hb).1, (h.far i b c hb).2⟩, h.dis, Nat.le_trans hl h.low⟩
theorem GridO.read (h : GridO w TI TR lo g cap bs L) : GRead w (some ⟨g, 0, none⟩) L :=
  .inr ⟨g, 0, rfl, h.top.lt, fun i r hi => by
    obtain ⟨b, c, r', h1, h2, h3, h4, h5⟩ := h.at (List.getElem?_eq_some_iff.1 hi).1
    rw [hi] at h2; cases h2
    exact ⟨_, c, by rw [Nat.zero_add]; exact h3, by obtain ⟨cur, _, h6, _⟩ := h4.body; exact h6, h4.ints⟩⟩
/-- a row written -/
theorem GridO.setRow {i b c : Nat} {r r' : List Int} (h : GridO w TI TR lo g cap bs L) (hb : bs[i]? = some (b, c)) (hr : L[i]? = some r) (hl : r'.length = r.length) (ho : Own w' b TI 1 r'.length c r') (hg : w.grownBy w' (some b)) : GridO w' TI TR lo g cap bs (L.set i r') := by
  have hne := (h.far i b c hb).2
  refine ⟨?_, by rw [List.length_set]; exact h.len, fun j b' c' x hb' hx => ?_, h.far, h.dis, h.low⟩
  · rw [List.length_set, rowVs_set hr hl]
    exact h.top.grown hg (Ne.symm hne)
  · by_cases e : j = i
    · subst e
      rw [hb] at hb'; cases hb'
      rw [List.getElem?_set, if_pos rfl, if_pos (List.getElem?_eq_some_iff.1 hr).1] at hx
      cases hx
      exact ho
    · rw [List.getElem?_set, if_neg (Ne.symm e)] at hx
      exact (h.row j b' c' x hb' hx).grown hg (h.dis j i b' c' b c hb' hb e)
/-- an empty one -/
theorem GridO.empty (w : World) (TI TR : TypeId) (lo : Nat) (hlo : lo ≤ w.heap.size) : GridO (w.alloc (.cells #[] TR)) TI TR lo w.heap.size 0 [] [] :=
  ⟨OwnV.empty w TR, rfl, fun i b c r h => by simp at h, fun i b c h => by simp at h, fun i j b c b' c' h => by simp at h, hlo⟩
/-- a row appended: the rows lie as they lay, their list in block g' -/
theorem GridO.snoc {g' cap' b c : Nat} {r : List Int} (h : GridO w TI TR lo g cap bs L) (hg : w.grownBy w' (some g)) (hg' : g' = g ∨ g' = w.heap.size) (ht : OwnV w' g' TR (L.length + 1) cap' (rowVs bs L ++ [.slice (some ⟨b, 0, none⟩) r.length c])) (ho : Own w b TI 1 r.length c r) (hb : lo ≤ b ∧ b ≠ g) (hd : ∀ (i b' c' : Nat), bs[i]? = some (b', c') → b' ≠ b) : GridO w' TI TR lo g' cap' (bs ++ [(b, c)]) (L ++ [r]) := by
  have hlt := h.top.lt
  have hbl := ho.lt
  have hlow := h.low
  have hcase : ∀ (i b' c' : Nat), (bs ++ [(b, c)])[i]? = some (b', c') → (i < bs.length ∧ bs[i]? = some (b', c')) ∨ (i = bs.length ∧ b' = b ∧ c' = c) := fun i b' c' hi => by
    by_cases hl : i < bs.length
    · rw [List.getElem?_append_left hl] at hi
      exact .inl ⟨hl, hi⟩
    · rw [List.getElem?_append_right (by omega)] at hi
      have e : i - bs.length = 0 := by
        have := (List.getElem?_eq_some_iff.1 hi).1
        simp at this; omega
      rw [e] at hi
      simp at hi
      exact .inr ⟨by omega, hi.1.symm, hi.2.symm⟩
  refine ⟨?_, by simp [h.len], fun i b' c' x hi hx => ?_, fun i b' c' hi => ?_, fun i j b1 c1 b2 c2 h1 h2 hij => ?_, by rcases hg' with e | e <;> omega⟩
  · rw [List.length_append, ← rowVs_snoc h.len]; exact ht
  · rcases hcase i b' c' hi with ⟨hl, e⟩ | ⟨hl, rfl, rfl⟩
    · rw [List.getElem?_append_left (by rw [← h.len]; exact hl)] at hx
      exact (h.row i b' c' x e hx).grown hg (h.far i b' c' e).2
    · rw [List.getElem?_append_right (by rw [← h.len]; omega), hl, h.len] at hx
      simp at hx
      subst hx
      exact ho.grown hg hb.2
  · rcases hcase i b' c' hi with ⟨hl, e⟩ | ⟨hl, rfl, rfl⟩
    · have h1 := h.far i b' c' e
      have hx : ∃ x, L[i]? = some x := ⟨_, List.getElem?_eq_getElem (by rw [← h.len]; exact hl)⟩
      obtain ⟨x, hx⟩ := hx
      have h2 := (h.row i b' c' x e hx).lt
      refine ⟨h1.1, ?_⟩
      rcases hg' with e' | e'
      · rw [e']; exact h1.2
      · omega
    · refine ⟨hb.1, ?_⟩
      rcases hg' with e' | e'
      · rw [e']; exact hb.2
      · omega
  · rcases hcase i b1 c1 h1 with ⟨hl, e⟩ | ⟨hl, rfl, rfl⟩
    · rcases hcase j b2 c2 h2 with ⟨hl2, e2⟩ | ⟨hl2, rfl, rfl⟩
      · exact h.dis i j b1 c1 b2 c2 e e2 hij
      · exact hd i b1 c1 e
    · rcases hcase j b2 c2 h2 with ⟨hl2, e2⟩ | ⟨hl2, rfl, rfl⟩
      · exact fun e3 => hd j b2 c2 e2 e3.symm
      · omega
end
end Go.Proofs.Ythpfhbogpnhgmaa
