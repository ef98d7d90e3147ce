/-
  Lists of lists of integers: marks laid one behind the other; a list of rows that is being filled. No function of the program is named.
-/
import Derived.Test.YthpfhbogpnhgmaaGr
namespace Go.Proofs.Ythpfhbogpnhgmaa
set_option linter.unusedVariables false
open Go.RowKit

/-- how many numbers -/
def gsum : List (List Int) → Nat
  | [] => 0
  | r :: L => r.length + gsum L
theorem gsum_append : ∀ (L M : List (List Int)), gsum (L ++ M) = gsum L + gsum M
  | [], M => by simp [gsum]
  | r :: L, M => by rw [List.cons_append, gsum, gsum, gsum_append L M]; omega
theorem gsum_take {L : List (List Int)} {j : Nat} {r : List Int} (h : L[j]? = some r) : gsum (L.take (j + 1)) = gsum (L.take j) + r.length := by
  rw [List.take_add_one, h, gsum_append]; simp [gsum]
theorem gsum_low {L : List (List Int)} {k e : Nat} (hk : L.length ≤ k) (h : ∀ r ∈ L, r.length ≤ e) : gsum L ≤ k * e := by
  induction L generalizing k with
  | nil => simp [gsum]
  | cons r L ih =>
    have h1 := h r (by simp)
    match k, hk with
    | k + 1, hk =>
      have h2 := ih (k := k) (by simpa using hk) (fun x hx => h x (by simp [hx]))
      rw [gsum, Nat.add_mul, Nat.one_mul]; omega
/-- the numbers s, s + 1, .. in place of all -/
def mkG (s : Int) : List (List Int) → List (List Int)
  | [] => []
  | r :: L => (List.range r.length).map (fun i : Nat => s + (i : Int)) :: mkG (s + r.length) L
theorem mkG_len : ∀ (s : Int) (L : List (List Int)), (mkG s L).length = L.length
  | s, [] => rfl
  | s, r :: L => by simp [mkG, mkG_len]
theorem mkG_at : ∀ {s : Int} {L : List (List Int)} {j : Nat} {r : List Int}, L[j]? = some r → (mkG s L)[j]? = some ((List.range r.length).map (fun i : Nat => s + (gsum (L.take j) : Int) + (i : Int)))
  | s, [], j, r, h => by simp at h
  | s, x :: L, 0, r, h => by simp at h; subst h; simp [mkG, gsum]
  | s, x :: L, j + 1, r, h => by
    simp at h
    simp only [mkG, List.getElem?_cons_succ, List.take_succ_cons, gsum]
    rw [mkG_at h]
    congr 2
    funext i
    rw [Int.natCast_add]; omega
/-- the first j rows marked -/
def mkGt (s : Int) (j : Nat) (L : List (List Int)) : List (List Int) := (mkG s L).take j ++ L.drop j
theorem mkGt_zero (s : Int) (L : List (List Int)) : mkGt s 0 L = L := by simp [mkGt]
theorem mkGt_all {s : Int} {L : List (List Int)} : mkGt s L.length L = mkG s L := by
  unfold mkGt; rw [List.take_of_length_le (by rw [mkG_len]; exact Nat.le_refl _), List.drop_of_length_le (Nat.le_refl _), List.append_nil]
theorem mkGt_len {s : Int} {j : Nat} {L : List (List Int)} (h : j ≤ L.length) : (mkGt s j L).length = L.length := by simp [mkGt, mkG_len]; omega
theorem mkGt_at {s : Int} {j : Nat} {L : List (List Int)} {r : List Int} (h : L[j]? = some r) : (mkGt s j L)[j]? = some r := by
  have hl := (List.getElem?_eq_some_iff.1 h).1
  unfold mkGt
  rw [List.getElem?_append_right (by rw [List.length_take, mkG_len]; omega), List.length_take, mkG_len, List.getElem?_drop, show j + (j - min j L.length) = j by omega]
  exact h
theorem mkGt_set {s : Int} {j : Nat} {L : List (List Int)} {r : List Int} (h : L[j]? = some r) : (mkGt s j L).set j ((List.range r.length).map (fun i : Nat => s + (gsum (L.take j) : Int) + (i : Int))) = mkGt s (j + 1) L := by
  have hl := (List.getElem?_eq_some_iff.1 h).1
  refine List.ext_getElem? (fun i => ?_)
  rw [List.getElem?_set, mkGt_len (by omega)]
  unfold mkGt
  by_cases e : j = i
  · subst e
    rw [if_pos rfl, if_pos hl, List.getElem?_append_left (by rw [List.length_take, mkG_len]; omega), List.getElem?_take, if_pos (by omega), mkG_at h]
  · rw [if_neg e]
    by_cases h' : i < j
    · rw [List.getElem?_append_left (by rw [List.length_take, mkG_len]; omega), List.getElem?_append_left (by rw [List.length_take, mkG_len]; omega), List.getElem?_take, if_pos h', List.getElem?_take, if_pos (by omega)]
    · rw [List.getElem?_append_right (by rw [List.length_take, mkG_len]; omega), List.getElem?_append_right (by rw [List.length_take, mkG_len]; omega), List.getElem?_drop, List.getElem?_drop, List.length_take, List.length_take, mkG_len]
      congr 1; omega
/-- a cell of a block of slices written -/
theorem OwnV.set {w : World} {g : Nat} {T : TypeId} {n cap : Nat} {vs : List Value} (h : OwnV w g T n cap vs) (i : Nat) (v : Value) (hi : i < vs.length) : OwnV (w.setCell ⟨g, i, none⟩ v) g T n cap (vs.set i v) := by
  obtain ⟨cur, hg, h1, h2, h3, h4, h5⟩ := h.body
  refine .of (Joins.block_setCell hg _) h1 h2 (by simpa using h3) ?_ (by simpa using h5)
  rw [Array.toList_setIfInBounds, List.take_set, h4]
theorem OwnV.frozen {w : World} {g : Nat} {T : TypeId} {n cap : Nat} {vs : List Value} (h : OwnV w g T n cap vs) (i : Nat) : w.frozen? ⟨g, i, none⟩ = false := by
  obtain ⟨cur, hg, _⟩ := h.body
  exact Joins.unfrozen_of_block hg i
/-- rows that are being filled in: the first ones stand, the others are nil -/
structure GridT (w : World) (TI TR : TypeId) (lo g n : Nat) (bs : List (Nat × Nat)) (L : List (List Int)) : Prop where
  top : OwnV w g TR n n (rowVs bs L ++ List.replicate (n - L.length) (.slice none 0 0))
  len : bs.length = L.length
  row : ∀ (i b c : Nat) (r : List Int), bs[i]? = some (b, c) → L[i]? = some r → Own w b TI 1 r.length c r
  far : ∀ (i b c : Nat), bs[i]? = some (b, c) → lo ≤ b ∧ b ≠ g
  dis : ∀ (i j b c b' c' : Nat), bs[i]? = some (b, c) → bs[j]? = some (b', c') → i ≠ j → b ≠ b'
  low : lo ≤ g
section
variable {w w' : World} {TI TR : TypeId} {lo g n : Nat} {bs : List (Nat × Nat)} {L : List (List Int)}
theorem GridT.done (h : GridT w TI TR lo g n bs L) (hn : L.length = n) : GridO w TI TR lo g n bs L :=
  ⟨by have := h.top; rw [hn, Nat.sub_self, List.replicate_zero, List.append_nil] at this; rw [hn]; exact this, h.len, h.row, h.far, h.dis, h.low⟩
theorem GridT.z (h : GridT w TI TR lo g n bs L) : ∀ (i b c : Nat), bs[i]? = some (b, c) → b < w.heap.size := fun i b c hb => by
  obtain ⟨r, hr⟩ : ∃ r, L[i]? = some r := ⟨_, List.getElem?_eq_getElem (by rw [← h.len]; exact (List.getElem?_eq_some_iff.1 hb).1)⟩
  exact (h.row i b c r hb hr).lt
theorem GridT.below (h : GridT w TI TR lo g n bs L) (hb : Below w.heap.size w w') : GridT w' TI TR lo g n bs L :=
  ⟨h.top.below hb, h.len, fun i b c r h1 h2 => (h.row i b c r h1 h2).below hb, h.far, h.dis, h.low⟩
/-- the next one stored -/
theorem GridT.next {b c : Nat} {r : List Int} (h : GridT w TI TR lo g n bs L) (hn : L.length < n) (ho : Own w b TI 1 r.length c r) (hb : lo ≤ b ∧ b ≠ g) (hd : ∀ (i b' c' : Nat), bs[i]? = some (b', c') → b' ≠ b) :
    GridT (w.setCell ⟨g, L.length, none⟩ (.slice (some ⟨b, 0, none⟩) r.length c)) TI TR lo g n (bs ++ [(b, c)]) (L ++ [r]) := by
  have hcase : ∀ (i b' c' : Nat), (bs ++ [(b, c)])[i]? = some (b', c') → (i < bs.length ∧ bs[i]? = some (b', c')) ∨ (i = bs.length ∧ b' = b ∧ c' = c) := fun i b' c' hi => by
    by_cases hl : i < bs.length
    · rw [List.getElem?_append_left hl] at hi
      exact .inl ⟨hl, hi⟩
    · rw [List.getElem?_append_right (by omega)] at hi
      have e : i - bs.length = 0 := by
        have := (List.getElem?_eq_some_iff.1 hi).1
        simp at this; omega
      rw [e] at hi
      simp at hi
      exact .inr ⟨by omega, hi.1.symm, hi.2.symm⟩
  refine ⟨?_, by simp [h.len], fun i b' c' x hi hx => ?_, fun i b' c' hi => ?_, fun i j b1 c1 b2 c2 h1 h2 hij => ?_, h.low⟩
  · have h1 := h.top.set L.length (.slice (some ⟨b, 0, none⟩) r.length c) (by rw [List.length_append, rowVs_len h.len, List.length_replicate]; omega)
    have e1 : (rowVs bs L ++ List.replicate (n - L.length) (Value.slice none 0 0)).set L.length (.slice (some ⟨b, 0, none⟩) r.length c) = rowVs (bs ++ [(b, c)]) (L ++ [r]) ++ List.replicate (n - (L ++ [r]).length) (.slice none 0 0) := by
      rw [← rowVs_snoc h.len, List.append_assoc]
      rw [List.set_append_right _ _ (by rw [rowVs_len h.len]; exact Nat.le_refl _), rowVs_len h.len, Nat.sub_self]
      congr 1
      rw [List.length_append, List.length_singleton, show n - L.length = (n - (L.length + 1)) + 1 by omega, List.replicate_succ]
      rfl
    rw [e1] at h1
    exact h1
  · rcases hcase i b' c' hi with ⟨hl, e⟩ | ⟨hl, rfl, rfl⟩
    · rw [List.getElem?_append_left (by rw [← h.len]; exact hl)] at hx
      exact (h.row i b' c' x e hx).setOther (a := ⟨g, L.length, none⟩) (h.far i b' c' e).2 _
    · rw [List.getElem?_append_right (by rw [← h.len]; omega), hl, h.len] at hx
      simp at hx
      subst hx
      exact ho.setOther (a := ⟨g, L.length, none⟩) hb.2 _
  · rcases hcase i b' c' hi with ⟨hl, e⟩ | ⟨hl, rfl, rfl⟩
    · exact h.far i b' c' e
    · exact hb
  · rcases hcase i b1 c1 h1 with ⟨hl, e⟩ | ⟨hl, rfl, rfl⟩
    · rcases hcase j b2 c2 h2 with ⟨hl2, e2⟩ | ⟨hl2, rfl, rfl⟩
      · exact h.dis i j b1 c1 b2 c2 e e2 hij
      · exact hd i b1 c1 e
    · rcases hcase j b2 c2 h2 with ⟨hl2, e2⟩ | ⟨hl2, rfl, rfl⟩
      · exact fun e3 => hd j b2 c2 e2 e3.symm
      · omega
end
/-- changed are blocks from lo on and below hi alone -/
def Betw (lo hi : Nat) (w w' : World) : Prop := w.heap.size = w'.heap.size ∧ w'.os = w.os ∧ w'.tape = w.tape ∧ w'.output = w.output ∧ ∀ b, b < w.heap.size → (b < lo ∨ hi ≤ b) → w'.heap[b]? = w.heap[b]?
theorem Betw.refl (lo hi : Nat) (w : World) : Betw lo hi w w := ⟨rfl, rfl, rfl, rfl, fun _ _ _ => rfl⟩
theorem Betw.trans {lo hi : Nat} {a b c : World} (h : Betw lo hi a b) (k : Betw lo hi b c) : Betw lo hi a c :=
  ⟨h.1.trans k.1, k.2.1.trans h.2.1, k.2.2.1.trans h.2.2.1, k.2.2.2.1.trans h.2.2.2.1, fun x hx hh => (k.2.2.2.2 x (by rw [← h.1]; exact hx) hh).trans (h.2.2.2.2 x hx hh)⟩
theorem Betw.below {lo hi : Nat} {w w' : World} (h : Betw lo hi w w') : Below lo w w' := ⟨h.2.1, h.2.2.1, h.2.2.2.1, Nat.le_of_eq h.1, fun i hi => by
  by_cases e : i < w.heap.size
  · exact h.2.2.2.2 i e (.inl hi)
  · rw [Array.getElem?_eq_none (by rw [← h.1]; omega), Array.getElem?_eq_none (by omega)]⟩
theorem Betw.grid {w w' : World} {TI TR : TypeId} {lo hi lo' g cap : Nat} {bs : List (Nat × Nat)} {L : List (List Int)} (h : GridO w TI TR lo' g cap bs L) (hb : Betw lo hi w w') (hl : hi ≤ lo') : GridO w' TI TR lo' g cap bs L :=
  h.block (fun k hk hz => hb.2.2.2.2 k hz (.inr (by omega)))
theorem GridO.under {w w' : World} {TI TR : TypeId} {lo g cap z : Nat} {bs : List (Nat × Nat)} {L : List (List Int)} (h : GridO w TI TR lo g cap bs L) (hb : Below z w w') (hg : g < z) (hz : ∀ (i b c : Nat), bs[i]? = some (b, c) → b < z) : GridO w' TI TR lo g cap bs L :=
  ⟨h.top.block (hb.block _ hg), h.len, fun i b c r h1 h2 => (h.row i b c r h1 h2).block (hb.block _ (hz i b c h1)), h.far, h.dis, h.low⟩
end Go.Proofs.Ythpfhbogpnhgmaa
