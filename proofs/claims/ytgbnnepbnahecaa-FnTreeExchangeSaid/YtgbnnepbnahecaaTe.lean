/-
  A tree with one run for another: how the list of its indexes is made, and the runs beside the tree. No function of the program is named.
-/
import Derived.Test.YtgbnnepbnahecaaTw
namespace Go.Proofs.Ytgbnnepbnahecaa
set_option linter.unusedVariables false

/-- the first m indexes but the one at i, and o among them if it is done -/
structure Ins (T : List Int) (o : Int) (i m : Nat) (d : Bool) (X : List Int) : Prop where
  up : X.Pairwise (· < ·)
  mem : ∀ z ∈ X, z ∈ T.take m ∨ (d = true ∧ z = o)
  all : ∀ (q : Nat) (z : Int), q < m → q ≠ i → T[q]? = some z → z ∈ X
  has : d = true → o ∈ X
  len : X.length + (if i < m then 1 else 0) = m + (if d = true then 1 else 0)
  beh : d = true → ∀ (q : Nat) (z : Int), m ≤ q → T[q]? = some z → o < z
  bef : d = false → ∀ (q : Nat) (z : Int), q < m → T[q]? = some z → z < o
section
variable {T : List Int} {o : Int} {i m n : Nat} {d : Bool} {X : List Int} {z : Int}
theorem Ins.start (T : List Int) (o : Int) (i : Nat) : Ins T o i 0 false [] := ⟨by simp, by simp, fun q z h => by omega, by simp, by simp, by simp, fun _ q z h => by omega⟩
theorem up_snoc (h : X.Pairwise (· < ·)) (hz : ∀ y ∈ X, y < z) : (X ++ [z]).Pairwise (· < ·) := List.pairwise_append.2 ⟨h, by simp, fun a ha b hb => by simp at hb; subst hb; exact hz a ha⟩
theorem Ins.put (ha : Asc n T) (h : Ins T o i m false X) (hz : T[m]? = some z) (hlt : o < z) : Ins T o i m true (X ++ [o]) := by
  refine ⟨up_snoc h.up (fun y hy => ?_), fun y hy => ?_, fun q y hq hi hy => List.mem_append_left _ (h.all q y hq hi hy), fun _ => by simp, ?_, fun _ q y hq hy => ?_, by simp⟩
  · rcases h.mem y hy with h' | ⟨h', -⟩
    · obtain ⟨q, hq⟩ := List.getElem?_of_mem h'
      have hql := (List.getElem?_eq_some_iff.1 hq).1
      simp at hql
      rw [List.getElem?_take, if_pos (by omega)] at hq
      exact h.bef rfl q y (by omega) hq
    · cases h'
  · rcases List.mem_append.1 hy with hy | hy
    · rcases h.mem y hy with h' | ⟨h', -⟩
      · exact .inl h'
      · cases h'
    · simp at hy; exact .inr ⟨rfl, hy⟩
  · have := h.len; simp at this ⊢; omega
  · by_cases e : m = q
    · subst e; rw [hz] at hy; cases hy; exact hlt
    · have := ha.get hz hy (by omega); omega
theorem Ins.low (ha : Asc n T) (h : Ins T o i m d X) (hz : T[m]? = some z) (hd : d = true ∨ z < o) : ∀ y ∈ X, y < z := fun y hy => by
  rcases h.mem y hy with h' | ⟨h', rfl⟩
  · obtain ⟨q, hq⟩ := List.getElem?_of_mem h'
    have hql := (List.getElem?_eq_some_iff.1 hq).1
    simp at hql
    rw [List.getElem?_take, if_pos (by omega)] at hq
    exact ha.get hq hz (by omega)
  · exact h.beh h' m z (Nat.le_refl _) hz
theorem Ins.take (ha : Asc n T) (h : Ins T o i m d X) (hz : T[m]? = some z) (hd : d = true ∨ z < o) (hi : m ≠ i) : Ins T o i (m + 1) d (X ++ [z]) := by
  refine ⟨up_snoc h.up (h.low ha hz hd), fun y hy => ?_, fun q y hq hqi hy => ?_, fun e => List.mem_append_left _ (h.has e), ?_, fun e q y hq hy => h.beh e q y (by omega) hy, fun e q y hq hy => ?_⟩
  · rcases List.mem_append.1 hy with hy | hy
    · rcases h.mem y hy with h' | h'
      · exact .inl (by rw [take_succ_of hz]; exact List.mem_append_left _ h')
      · exact .inr h'
    · simp at hy; subst hy; exact .inl (by rw [take_succ_of hz]; simp)
  · by_cases e : q = m
    · subst e; rw [hz] at hy; cases hy; simp
    · exact List.mem_append_left _ (h.all q y (by omega) hqi hy)
  · have := h.len
    simp only [List.length_append, List.length_singleton]
    split at this <;> split at this <;> split <;> (try split) <;> first | omega | contradiction
  · by_cases e' : q = m
    · subst e'; rw [hz] at hy; cases hy
      rcases hd with hd | hd
      · rw [hd] at e; cases e
      · exact hd
    · exact h.bef e q y (by omega) hy
theorem Ins.skip (h : Ins T o i m d X) (hz : T[m]? = some z) (hd : d = true ∨ z < o) (hi : m = i) : Ins T o i (m + 1) d X := by
  refine ⟨h.up, fun y hy => ?_, fun q y hq hqi hy => h.all q y (by omega) hqi hy, h.has, ?_, fun e q y hq hy => h.beh e q y (by omega) hy, fun e q y hq hy => ?_⟩
  · rcases h.mem y hy with h' | h'
    · exact .inl (by rw [take_succ_of hz]; exact List.mem_append_left _ h')
    · exact .inr h'
  · have := h.len
    split at this <;> split at this <;> split <;> (try split) <;> first | omega | contradiction
  · by_cases e' : q = m
    · subst e'; rw [hz] at hy; cases hy
      rcases hd with hd | hd
      · rw [hd] at e; cases e
      · exact hd
    · exact h.bef e q y (by omega) hy
theorem Ins.last (h : Ins T o i T.length false X) : Ins T o i T.length true (X ++ [o]) := by
  refine ⟨up_snoc h.up (fun y hy => ?_), fun y hy => ?_, fun q y hq hi hy => List.mem_append_left _ (h.all q y hq hi hy), fun _ => by simp, ?_, fun _ q y hq hy => ?_, by simp⟩
  · rcases h.mem y hy with h' | ⟨h', -⟩
    · rw [List.take_length] at h'
      obtain ⟨q, hq⟩ := List.getElem?_of_mem h'
      exact h.bef rfl q y (List.getElem?_eq_some_iff.1 hq).1 hq
    · cases h'
  · rcases List.mem_append.1 hy with hy | hy
    · rcases h.mem y hy with h' | ⟨h', -⟩
      · exact .inl h'
      · cases h'
    · simp at hy; exact .inr ⟨rfl, hy⟩
  · have := h.len; simp at this ⊢; omega
  · have := (List.getElem?_eq_some_iff.1 hy).1; omega
end
/-- whether with the run o in place of the one at i all nodes are linked -/
def Good (N : Nat) (rs : List Rn) (T : List Int) (o : Int) (i : Nat) : Prop := ∀ j : Nat, j < N → Same (runOf rs o :: sub rs (T.take i ++ T.drop (i + 1))) 0 j
theorem good_some {N : Nat} {rs : List Rn} {T : List Int} {o : Nat} (h : IsTree N rs T) (ho : o < rs.length) : ∃ i : Nat, i < T.length ∧ Good N rs T o i := by
  have hr : runOf rs (o : Int) ∈ rs := List.mem_of_getElem? (runOf_at (by omega) (by omega))
  obtain ⟨i, z, hz, hs⟩ := exchange h hr
  exact ⟨i, (List.getElem?_eq_some_iff.1 hz).1, hs⟩
theorem good_tree {N : Nat} {rs : List Rn} {T X : List Int} {o i : Nat} (h : IsTree N rs T) (ho : o < rs.length) (hi : i < T.length) (hX : Ins T o i T.length true X) (hg : Good N rs T o i) : IsTree N rs X := by
  refine exchange_tree (k := (o : Int)) (i := i) h rfl hg ⟨fun z hz => ?_, hX.up⟩ ?_ (hX.has rfl) (fun z hz => ?_)
  · rcases hX.mem z hz with h' | ⟨-, rfl⟩
    · rw [List.take_length] at h'; exact h.asc.rng z h'
    · omega
  · have := hX.len; rw [if_pos hi] at this; simp at this; omega
  · rcases List.mem_append.1 hz with h' | h'
    · obtain ⟨q, hq⟩ := List.getElem?_of_mem h'
      have hql := (List.getElem?_eq_some_iff.1 hq).1
      simp at hql
      rw [List.getElem?_take, if_pos (by omega)] at hq
      exact hX.all q z (by omega) (by omega) hq
    · obtain ⟨q, hq⟩ := List.getElem?_of_mem h'
      rw [List.getElem?_drop] at hq
      have hql := (List.getElem?_eq_some_iff.1 hq).1
      exact hX.all (i + 1 + q) z hql (by omega) hq
theorem Ins.size {T : List Int} {o : Int} {i : Nat} {X : List Int} (h : Ins T o i T.length true X) (hi : i < T.length) : X.length = T.length := by
  have := h.len; rw [if_pos hi] at this; simp at this; omega
/-- the runs beside a tree among the first k: a of the tree's lie ahead, and o is the last one beside it -/
structure Rest (rs : List Rn) (T : List Int) (k a : Nat) (o : Int) (vs : List Rn) : Prop where
  le : a ≤ T.length
  cut : ∀ (q : Nat) (z : Int), T[q]? = some z → (q < a ↔ z < (k : Int))
  mem : ∀ r ∈ vs, r ∈ rs
  len : a + vs.length = k
  oth : (o = -1 ∧ vs = []) ∨ ∃ u : Nat, o = (u : Int) ∧ u < k ∧ u < rs.length ∧ ∀ z ∈ T, z ≠ (u : Int)
section
variable {rs : List Rn} {T : List Int} {k a n : Nat} {o : Int} {vs : List Rn} {r : Rn}
theorem Rest.start (ha : Asc n T) : Rest rs T 0 0 (-1) [] := ⟨Nat.zero_le _, fun q z hz => by have := ha.rng z (List.mem_of_getElem? hz); omega, by simp, rfl, .inl ⟨rfl, rfl⟩⟩
theorem Rest.tree (ha : Asc n T) (h : Rest rs T k a o vs) (hz : T[a]? = some (k : Int)) : Rest rs T (k + 1) (a + 1) o vs := by
  have hl := (List.getElem?_eq_some_iff.1 hz).1
  refine ⟨hl, fun q z hq => ?_, h.mem, by have := h.len; omega, ?_⟩
  · rcases Nat.lt_trichotomy q a with e | e | e
    · have := (h.cut q z hq).1 e; omega
    · subst e; rw [hz] at hq; cases hq; omega
    · have := ha.get hz hq e; omega
  · rcases h.oth with h' | ⟨u, h1, h2, h3⟩
    · exact .inl h'
    · exact .inr ⟨u, h1, by omega, h3⟩
theorem Rest.other (ha : Asc n T) (h : Rest rs T k a o vs) (hr : rs[k]? = some r) (hz : T[a]? ≠ some (k : Int)) : Rest rs T (k + 1) a k (vs ++ [r]) := by
  have hno : ∀ (q : Nat) (z : Int), T[q]? = some z → z ≠ (k : Int) := fun q z hq e => by
    subst e
    rcases Nat.lt_trichotomy q a with e | e | e
    · have := (h.cut q _ hq).1 e; omega
    · subst e; exact hz hq
    · have hl := (List.getElem?_eq_some_iff.1 hq).1
      have h1 := List.getElem?_eq_getElem (by omega : a < T.length)
      have := ha.get h1 hq e
      have := (h.cut a _ h1).2 (by omega)
      omega
  refine ⟨h.le, fun q z hq => ?_, fun x hx => ?_, by have := h.len; simp; omega, .inr ⟨k, rfl, by omega, (List.getElem?_eq_some_iff.1 hr).1, fun z hz => ?_⟩⟩
  · have := h.cut q z hq
    have := hno q z hq
    omega
  · rcases List.mem_append.1 hx with h' | h'
    · exact h.mem x h'
    · simp at h'; subst h'; exact List.mem_of_getElem? hr
  · obtain ⟨q, hq⟩ := List.getElem?_of_mem hz
    exact hno q z hq
theorem Rest.done (ha : Asc rs.length T) (h : Rest rs T rs.length a o vs) : a = T.length := by
  apply Classical.byContradiction
  intro hne
  have hle := h.le
  have h1 := List.getElem?_eq_getElem (by omega : a < T.length)
  have := (h.cut a _ h1).2 (ha.rng _ (List.mem_of_getElem? h1)).2
  omega
end
/-- the net with the tree's runs at the front -/
theorem front_ok {N : Nat} {rs us : List Rn} (hn : nOk N rs = true) (hm : ∀ r ∈ us, r ∈ rs) (hl : us.length ≤ 12) : nOk N us = true := by
  obtain ⟨h1, h2, -, h4⟩ := nOk_true hn
  refine nOk_of h1 h2 hl (fun i r hi => ?_)
  obtain ⟨j, hj⟩ := List.getElem?_of_mem (hm r (List.mem_of_getElem? hi))
  exact h4 j r hj
theorem front_whole {N : Nat} {us vs : List Rn} (hn : nOk N (us ++ vs) = true) (hw : nWhole N us = true) : nWhole N (us ++ vs) = true :=
  whole_mono hn (EndsOf.of_mem (fun r hr => List.mem_append_left _ hr)) hw
end Go.Proofs.Ytgbnnepbnahecaa
