/-
  A block of slices that a call has made, and lists of integers that it holds. No function of the program is named.
-/
import Derived.Test.YthpfhbogpnhgmaaApp
import Derived.Test.YthpfhbogpnhgmaaNd
namespace Go.Proofs.Ythpfhbogpnhgmaa
set_option linter.unusedVariables false
open Go.RowKit

/-- the block g is a row of cap elements of one cell, the first n of which hold vs -/
def OwnV (w : World) (g : Nat) (T : TypeId) (n cap : Nat) (vs : List Value) : Prop := w.ownsRow g T 1 (.slice (some ⟨g, 0, none⟩) n cap) n vs
section
variable {w w' : World} {g : Nat} {T : TypeId} {n cap : Nat} {vs : List Value}
theorem OwnV.body (h : OwnV w g T n cap vs) : ∃ cur, w.heap[g]? = some (.cells cur T (0, 0)) ∧ n ≤ cap ∧ cap ≤ maxLen ∧ cur.size = cap * 1 ∧ cur.toList.take (n * 1) = vs ∧ vs.length = n * 1 := by
  obtain ⟨hl, hn | ⟨g', cap', cur, e, hb, hg, h1, h2, h3, h4⟩⟩ := h
  · simp at hn
  · simp at e
    obtain ⟨rfl, rfl⟩ := e
    exact ⟨cur, hg, h1, h2, h3, h4, hl⟩
theorem OwnV.of {cur : Array Value} (h0 : w.heap[g]? = some (.cells cur T (0, 0))) (h1 : n ≤ cap) (h2 : cap ≤ maxLen) (h3 : cur.size = cap * 1) (h4 : cur.toList.take (n * 1) = vs) (h5 : vs.length = n * 1) : OwnV w g T n cap vs :=
  ⟨h5, .inr ⟨g, cap, cur, rfl, Nat.le_refl _, h0, h1, h2, h3, h4⟩⟩
theorem OwnV.lt (h : OwnV w g T n cap vs) : g < w.heap.size := by
  obtain ⟨cur, hg, _⟩ := h.body
  exact (Array.getElem?_eq_some_iff.1 hg).1
theorem OwnV.len (h : OwnV w g T n cap vs) : vs.length = n := by obtain ⟨_, _, _, _, _, _, h⟩ := h.body; omega
theorem OwnV.cells (h : OwnV w g T n cap vs) {i : Nat} {v : Value} (hi : vs[i]? = some v) : w.cell? ⟨g, i, none⟩ = some v := by
  obtain ⟨cur, hg, h1, h2, h3, h4, h5⟩ := h.body
  have e : (cur.toList.take (n * 1))[i]? = some v := by rw [h4]; exact hi
  rw [List.getElem?_take] at e
  split at e
  · rw [Joins.cell_of_block hg]; simpa using e
  · cases e
theorem OwnV.block (h : OwnV w g T n cap vs) (e : w'.heap[g]? = w.heap[g]?) : OwnV w' g T n cap vs := by
  obtain ⟨cur, hg, h1, h2, h3, h4, h5⟩ := h.body
  exact .of (e.trans hg) h1 h2 h3 h4 h5
theorem OwnV.below (h : OwnV w g T n cap vs) (hb : Below w.heap.size w w') : OwnV w' g T n cap vs := h.block (hb.block _ h.lt)
theorem OwnV.grown {g' : Nat} (h : OwnV w g T n cap vs) (hg : w.grownBy w' (some g')) (hne : g ≠ g') : OwnV w' g T n cap vs := h.block (hg.block _ h.lt (by simpa using hne))
theorem OwnV.alloc (h : OwnV w g T n cap vs) (o : Obj) : OwnV (w.alloc o) g T n cap vs := h.block (Deep.blk_alloc_lt _ _ _ h.lt)
theorem OwnV.row (h : OwnV w g T n cap vs) {b : Nat} (hb : b ≤ g) : w.ownsRow b T 1 (.slice (some ⟨g, 0, none⟩) n cap) n vs := Joins.ownsRow_le h hb
end
theorem OwnV.empty (w : World) (T : TypeId) : OwnV (w.alloc (.cells #[] T)) w.heap.size T 0 0 [] := .of (Deep.blk_alloc_new _ _) (Nat.le_refl _) (Nat.zero_le _) (by simp) (by simp) (by simp)
theorem OwnV.one (w : World) (T : TypeId) (v : Value) : OwnV (w.alloc (.cells #[v] T)) w.heap.size T 1 1 [v] := .of (Deep.blk_alloc_new _ _) (Nat.le_refl _) (by unfold maxLen; omega) (by simp) (by simp) (by simp)

theorem wp_appendV {P : Program} (w : World) {ops : Array Oper} {rest : List Oper} {o : Oper} {a : Act} {Q : Exit → Act → World → Prop} (hgd : o.guard = none) (s x : Operand) (t : TypeId)
    (ho : o.op = .call { callee := .builtin .append, args := #[s, x], argTypes := #[t, t] })
    (e : TypeId) (z : Value) (bytes : Nat) (ht : P.underlying t = some (.slice e)) (hinfo : (P.info? e).map (fun i => (i.zero, i.size, i.bytes)) = some (some z, 1, bytes)) (hzs : z.cells.size = 1) (hby : bytes ≤ 32)
    (g n cap : Nat) (vs : List Value) (hs : a.eval s = .slice (some ⟨g, 0, none⟩) n cap) (hown : OwnV w g e n cap vs)
    (ad : Addr) (m c : Nat) (news : List Value) (hx : a.eval x = .slice (some ad) m c) (hl : news.length = m) (hnews : ∀ (j : Nat) (u : Value), news[j]? = some u → w.cell? (ad.add j) = some u) (h1 : ∀ u ∈ news, u.oneCell' = true) (h63 : n + m ≤ 4194304)
    (h : ∀ g' cap' w', OwnV w' g' e (n + m) cap' (vs ++ news) → w.grownBy w' (some g) → (g' = g ∨ g' = w.heap.size) → w.heap.size ≤ w'.heap.size → wpList P ops Q rest (a.put o.dst (.slice (some ⟨g', 0, none⟩) (n + m) cap')) w') :
    wpList P ops Q (o :: rest) a w := by
  obtain ⟨i, hi, hzz⟩ := Option.map_eq_some_iff.1 hinfo
  simp only [Prod.mk.injEq] at hzz
  obtain ⟨hz, hs', hb⟩ := hzz
  have h32 : (n + m) * bytes ≤ 4194304 * 32 := Nat.mul_le_mul h63 hby
  refine wpList_append_own_at w hgd s x t ho 0 e i z 1 bytes ht hi hz hs' hb hzs (by decide) _ n vs hs (hown.row (Nat.zero_le _)) ad m c news hx (by omega) hnews h1 (by unfold maxLen; omega) (by omega) (Nat.zero_le _) ?_
  intro v' w' hown' hg hnil hloc
  have hgw : w.grownBy w' (some g) := hg
  obtain ⟨hl', ⟨rfl, h0⟩ | ⟨g', cap', cur, rfl, hb', hgg, h1, h2, h3, h4⟩⟩ := hown'
  · have := hnil.1 rfl
    simp at this
  · refine h g' cap' w' ⟨hl', .inr ⟨g', cap', cur, rfl, Nat.le_refl _, hgg, h1, h2, h3, h4⟩⟩ hgw ?_ hgw.size
    simpa [Value.ownBlock] using hloc

/-- the slices vs hold the lists L, each in a block of its own at or beyond lo that is not g -/
def Rows (lo g : Nat) (w : World) (vs : List Value) (L : List (List Int)) : Prop :=
  vs.length = L.length ∧ ∀ (i : Nat) (T : List Int), L[i]? = some T → ∃ b c : Nat, vs[i]? = some (.slice (some ⟨b, 0, none⟩) T.length c) ∧ lo ≤ b ∧ b < w.heap.size ∧ b ≠ g ∧ Ints w (some ⟨b, 0, none⟩) T
section
variable {lo g : Nat} {w w' : World} {vs : List Value} {L : List (List Int)}
theorem Rows.nil (lo g : Nat) (w : World) : Rows lo g w [] [] := ⟨rfl, fun i T h => by simp at h⟩
theorem Rows.below (h : Rows lo g w vs L) (hb : Below w.heap.size w w') : Rows lo g w' vs L := ⟨h.1, fun i T hT => by
  obtain ⟨b, c, h1, h2, h3, h4, h5⟩ := h.2 i T hT
  exact ⟨b, c, h1, h2, by have := hb.size; omega, h4, h5.below hb⟩⟩
theorem Rows.alloc (h : Rows lo g w vs L) (o : Obj) : Rows lo g (w.alloc o) vs L := h.below ((Below.refl _ _).alloc (Nat.le_refl _) _)
theorem Rows.grown (h : Rows lo g w vs L) (hg : w.grownBy w' (some g)) : Rows lo g w' vs L := ⟨h.1, fun i T hT => by
  obtain ⟨b, c, h1, h2, h3, h4, h5⟩ := h.2 i T hT
  exact ⟨b, c, h1, h2, by have := hg.size; omega, h4, h5.grown hg (fun o e => by cases e; exact h4 rfl)⟩⟩
theorem Rows.far {g' : Nat} (h : Rows lo g w vs L) (hg : w.grownBy w' (some g')) (hlo : ∀ b, lo ≤ b → b < w.heap.size → b ≠ g') : Rows lo g w' vs L := ⟨h.1, fun i T hT => by
  obtain ⟨b, c, h1, h2, h3, h4, h5⟩ := h.2 i T hT
  exact ⟨b, c, h1, h2, by have := hg.size; omega, h4, h5.grown hg (fun o e => by cases e; exact hlo _ h2 h3 rfl)⟩⟩
theorem Rows.append {lo2 g2 : Nat} {vs2 : List Value} {L2 : List (List Int)} (h : Rows lo g w vs L) (h2 : Rows lo2 g2 w vs2 L2) (hlo : lo ≤ lo2) (hg : g < lo2) : Rows lo g w (vs ++ vs2) (L ++ L2) := ⟨by simp [h.1, h2.1], fun i T hT => by
  by_cases hi : i < L.length
  · rw [List.getElem?_append_left hi] at hT
    obtain ⟨b, c, h1, h3⟩ := h.2 i T hT
    exact ⟨b, c, by rw [List.getElem?_append_left (by rw [h.1]; exact hi)]; exact h1, h3⟩
  · rw [List.getElem?_append_right (by omega)] at hT
    obtain ⟨b, c, h1, h3, h4, h5, h6⟩ := h2.2 _ T hT
    exact ⟨b, c, by rw [List.getElem?_append_right (by rw [h.1]; omega), h.1]; exact h1, by omega, h4, by omega, h6⟩⟩
theorem Rows.to {g' : Nat} (h : Rows lo g w vs L) (hne : ∀ b, lo ≤ b → b < w.heap.size → b ≠ g → b ≠ g') : Rows lo g' w vs L := ⟨h.1, fun i T hT => by
  obtain ⟨b, c, h1, h2, h3, h4, h5⟩ := h.2 i T hT
  exact ⟨b, c, h1, h2, h3, hne b h2 h3 h4, h5⟩⟩
theorem Rows.lower {lo' : Nat} (h : Rows lo g w vs L) (hl : lo' ≤ lo) : Rows lo' g w vs L := ⟨h.1, fun i T hT => by
  obtain ⟨b, c, h1, h2, h3⟩ := h.2 i T hT
  exact ⟨b, c, h1, by omega, h3⟩⟩
theorem Rows.one (h : Rows lo g w vs L) : ∀ u ∈ vs, u.oneCell' = true := fun u hu => by
  obtain ⟨i, hi⟩ := List.getElem?_of_mem hu
  have hl := (List.getElem?_eq_some_iff.1 hi).1
  have hT := List.getElem?_eq_getElem (by rw [← h.1]; exact hl : i < L.length)
  obtain ⟨b, c, h1, -⟩ := h.2 i _ hT
  rw [hi] at h1
  cases h1
  rfl
end
end Go.Proofs.Ythpfhbogpnhgmaa
