/-
  A list of rows that stand in blocks of their own or of others: it is read, and a row is put in the place of another.
-/
import Derived.Test.YthpfhbogpnhgmaaDMa
namespace Go.Proofs.Ythpfhbogpnhgmaa
open Go.RowKit
set_option linter.unusedVariables false

/-- a block of slices whose rows stand in other blocks -/
structure GMix (w : World) (TI TR : TypeId) (g cap : Nat) (vs : List Value) (L : List (List Int)) : Prop where
  top : OwnV w g TR L.length cap vs
  len : vs.length = L.length
  row : ∀ (i : Nat) (r : List Int), L[i]? = some r → ∃ b c, vs[i]? = some (.slice (some ⟨b, 0, none⟩) r.length c) ∧ b ≠ g ∧ Own w b TI 1 r.length c r
section
variable {w w' : World} {TI TR : TypeId} {lo g cap : Nat} {vs : List Value} {bs : List (Nat × Nat)} {L : List (List Int)}
theorem GMix.of (h : GridO w TI TR lo g cap bs L) : GMix w TI TR g cap (rowVs bs L) L :=
  ⟨h.top, rowVs_len h.len, fun i r hr => by
    obtain ⟨b, c, r', h1, h2, _, h4, _, h6⟩ := h.at (List.getElem?_eq_some_iff.1 hr).1
    rw [hr] at h2; cases h2
    exact ⟨b, c, rowVs_at h1 hr, h6, h4⟩⟩
theorem GMix.below (h : GMix w TI TR g cap vs L) (hb : Below w.heap.size w w') : GMix w' TI TR g cap vs L :=
  ⟨h.top.below hb, h.len, fun i r hr => by
    obtain ⟨b, c, h1, h2, h3⟩ := h.row i r hr
    exact ⟨b, c, h1, h2, h3.below hb⟩⟩
theorem GMix.lt (h : GMix w TI TR g cap vs L) : g < w.heap.size := h.top.lt
theorem GMix.frozen (h : GMix w TI TR g cap vs L) (i : Nat) : w.frozen? ⟨g, i, none⟩ = false := h.top.frozen i
theorem GMix.cell (h : GMix w TI TR g cap vs L) {i : Nat} {r : List Int} (hr : L[i]? = some r) : ∃ b c, w.cell? ⟨g, i, none⟩ = some (.slice (some ⟨b, 0, none⟩) r.length c) := by
  obtain ⟨b, c, h1, _⟩ := h.row i r hr
  exact ⟨b, c, h.top.cells h1⟩
theorem GMix.put (h : GMix w TI TR g cap vs L) {i b c n : Nat} {r : List Int} (hi : i < L.length) (hn : r.length = n) (ho : Own w b TI 1 n c r) (hne : b ≠ g) :
    GMix (w.setCell ⟨g, i, none⟩ (.slice (some ⟨b, 0, none⟩) n c)) TI TR g cap (vs.set i (.slice (some ⟨b, 0, none⟩) n c)) (L.set i r) := by
  subst hn
  refine ⟨by rw [List.length_set]; exact h.top.set i _ (by rw [h.len]; exact hi), by rw [List.length_set, List.length_set]; exact h.len, fun j x hx => ?_⟩
  by_cases e : i = j
  · subst e
    rw [List.getElem?_set, if_pos rfl, if_pos hi] at hx
    cases hx
    exact ⟨b, c, by rw [List.getElem?_set, if_pos rfl, if_pos (by rw [h.len]; exact hi)], hne, ho.setOther (a := ⟨g, i, none⟩) hne _⟩
  · rw [List.getElem?_set, if_neg e] at hx
    obtain ⟨b', c', h1, h2, h3⟩ := h.row j x hx
    exact ⟨b', c', by rw [List.getElem?_set, if_neg e]; exact h1, h2, h3.setOther (a := ⟨g, i, none⟩) h2 _⟩
theorem GMix.read (h : GMix w TI TR g cap vs L) : GRead w (some ⟨g, 0, none⟩) L :=
  .inr ⟨g, 0, rfl, h.top.lt, fun i r hi => by
    obtain ⟨b, c, h1, h2, h3⟩ := h.row i r hi
    exact ⟨_, c, by rw [Nat.zero_add]; exact h.top.cells h1, by obtain ⟨cur, _, h6, _⟩ := h3.body; exact h6, h3.ints⟩⟩
end
/-- a matrix, and a list of rows beside it, some of which may be the matrix's -/
def TwoM (a W : World) (TI TR : TypeId) (lo z g c : Nat) (bs : List (Nat × Nat)) (L : List (List Int)) (gz cz : Nat) (X : List (List Int)) : Prop :=
  (g < z ∧ z ≤ gz ∧ a.heap.size ≤ z ∧ ∀ (i b c : Nat), bs[i]? = some (b, c) → b < z) ∧ GridO W TI TR lo g c bs L ∧ (∃ vs, GMix W TI TR gz cz vs X) ∧ Below a.heap.size a W
section
variable {a W W' : World} {TI TR : TypeId} {lo z g c gz cz : Nat} {bs : List (Nat × Nat)} {L X : List (List Int)}
theorem TwoM.put (h : TwoM a W TI TR lo z g c bs L gz cz X) {i j b d n : Nat} {r : List Int} (hi : i < X.length) (hb : bs[j]? = some (b, d)) (hr : L[j]? = some r) (hn : r.length = n) :
    TwoM a (W.setCell ⟨gz, i, none⟩ (.slice (some ⟨b, 0, none⟩) n d)) TI TR lo z g c bs L gz cz (X.set i r) := by
  obtain ⟨⟨h1, h2, h3, h4⟩, h5, ⟨vs, h6⟩, h7⟩ := h
  have ho := h5.row j b d r hb hr
  rw [hn] at ho
  have hbz := h4 j b d hb
  have hlt := h6.lt
  have hB : ∀ v, Below z W (W.setCell ⟨gz, i, none⟩ v) := fun v => below_gr (Below.refl _ _) (gb_oneM W gz i v) h2 (by omega)
  exact ⟨⟨h1, h2, h3, h4⟩, h5.under (hB _) h1 h4, ⟨_, h6.put hi hn ho (by omega)⟩, h7.trans ((hB _).mono h3)⟩
theorem TwoM.below (h : TwoM a W TI TR lo z g c bs L gz cz X) (hb : Below W.heap.size W W') : TwoM a W' TI TR lo z g c bs L gz cz X := by
  obtain ⟨h0, h5, ⟨vs, h6⟩, h7⟩ := h
  exact ⟨h0, h5.below hb, ⟨vs, h6.below hb⟩, h7.trans (hb.mono h7.size)⟩
theorem TwoM.at (h : TwoM a W TI TR lo z g c bs L gz cz X) {i : Nat} {r : List Int} (hr : X[i]? = some r) : W.frozen? ⟨gz, i, none⟩ = false ∧ (∃ b d, W.cell? ⟨gz, i, none⟩ = some (.slice (some ⟨b, 0, none⟩) r.length d)) ∧ gz < W.heap.size := by
  obtain ⟨h0, h5, ⟨vs, h6⟩, h7⟩ := h
  exact ⟨h6.frozen i, h6.cell hr, h6.lt⟩
theorem TwoM.read (h : TwoM a W TI TR lo z g c bs L gz cz X) : GRead W (some ⟨gz, 0, none⟩) X := by
  obtain ⟨h0, h5, ⟨vs, h6⟩, h7⟩ := h
  exact h6.read
end
end Go.Proofs.Ythpfhbogpnhgmaa
