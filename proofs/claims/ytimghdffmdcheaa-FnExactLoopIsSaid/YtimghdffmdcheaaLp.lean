/-
  A search along a tree with a stack: which runs are left, what the stack holds, and why it ends with the way. No function of the program is named.
-/
import Derived.Test.YtimghdffmdcheaaLo
namespace Go.Proofs.Ytimghdffmdcheaa
set_option linter.unusedVariables false

/-- so many are left -/
def tru : List Bool → Nat
  | [] => 0
  | b :: l => (if b = true then 1 else 0) + tru l
theorem tru_set : ∀ {l : List Bool} {i : Nat}, l[i]? = some true → tru (l.set i false) + 1 = tru l
  | [], i, h => by simp at h
  | b :: l, 0, h => by simp at h; subst h; simp [tru]; omega
  | b :: l, i + 1, h => by
    have := tru_set (l := l) (i := i) (by simpa using h)
    simp only [List.set_cons_succ, tru]; omega
theorem tru_le : ∀ l : List Bool, tru l ≤ l.length
  | [] => by simp [tru]
  | b :: l => by have := tru_le l; simp only [tru, List.length_cons]; split <;> omega
/-- the number that a run has from a node on -/
def numAt (rs : List Rn) (k : Nat) (v : Int) : Int := if v = (runOf rs k).f then (k : Int) + 1 else if v = (runOf rs k).t then -((k : Int) + 1) else 0
section
variable {N : Nat} {rs : List Rn} {T W P L M : List Int} {a b c d z e : Int} {k j : Nat} {lf : List Bool}
theorem numAt_is (h : numAt rs k d ≠ 0) : ix (numAt rs k d) = k ∧ bg rs (numAt rs k d) = d ∧ numAt rs k d ≠ 0 := by
  unfold numAt at h ⊢
  by_cases h1 : d = (runOf rs k).f
  · rw [if_pos h1]; exact ⟨ix_up k, by rw [bg_up]; exact h1.symm, by omega⟩
  · rw [if_neg h1] at h ⊢
    by_cases h2 : d = (runOf rs k).t
    · rw [if_pos h2]; exact ⟨by rw [ix_neg]; exact ix_up k, by rw [bg_neg (by omega), en_up]; exact h2.symm, by omega⟩
    · rw [if_neg h2] at h; exact absurd rfl h
theorem numAt_not (h : numAt rs (k) d = 0) (hz : ix z = k) (h0 : z ≠ 0) : bg rs z ≠ d := by
  intro hb
  unfold numAt at h
  by_cases h1 : d = (runOf rs k).f
  · rw [if_pos h1] at h; omega
  · rw [if_neg h1] at h
    by_cases h2 : d = (runOf rs k).t
    · rw [if_pos h2] at h; omega
    · unfold bg at hb
      rw [hz] at hb
      split at hb
      · exact h2 hb.symm
      · exact h1 hb.symm
/-- the stack W leads from a to d; what is left are runs of T that the stack has not, and no run of the way to b is gone but those of the stack -/
structure Dfs (rs : List Rn) (T : List Int) (a b : Int) (lf : List Bool) (W : List Int) (d : Int) : Prop where
  len : lf.length = rs.length
  asc : Asc rs.length T
  wy : ∃ L, Trail rs T a L b
  tr : Trail rs T a W d
  lt : ∀ i : Nat, lf[i]? = some true → (i : Int) ∈ T
  us : ∀ z ∈ W, lf[(ix z).toNat]? = some false
  pu : ∀ z ∈ wayT rs T a b, lf[(ix z).toNat]? = some false → ix z ∈ W.map ix
theorem dfs_start (hl : lf.length = rs.length) (ha : Asc rs.length T) (h : ∀ i : Nat, i < rs.length → (lf[i]? = some true ↔ (i : Int) ∈ T)) (hw : ∃ L, Trail rs T a L b) : Dfs rs T a b lf [] a := by
  refine ⟨hl, ha, hw, trail_nil.2 rfl, fun i hi => (h i (by have := (List.getElem?_eq_some_iff.1 hi).1; omega)).1 hi, fun z hz => by simp at hz, fun z hz hf => ?_⟩
  have hz := (wayT_is hw).1 z hz
  have hr := ha.rng _ hz
  have := (h (ix z).toNat (by omega)).2 (by rw [show (((ix z).toNat : Nat) : Int) = ix z by omega]; exact hz)
  rw [hf] at this; simp at this
theorem dfs_push (h : Dfs rs T a b lf W d) (hk : lf[k]? = some true) (hz : numAt rs k d ≠ 0) : Dfs rs T a b (lf.set k false) (W ++ [numAt rs k d]) (en rs (numAt rs k d)) := by
  obtain ⟨h1, h2, h3⟩ := numAt_is hz
  have hkl := (List.getElem?_eq_some_iff.1 hk).1
  refine ⟨by rw [List.length_set]; exact h.len, h.asc, h.wy, trail_append.2 ⟨d, h.tr, ?_, ?_⟩, fun i hi => ?_, fun z hz => ?_, fun z hz hf => ?_⟩
  · have := trail_one (rs := rs) (T := T) (z := numAt rs k d) (by rw [h1]; exact h.lt k hk)
    rw [h2] at this; exact this
  · intro z hz z' hz' he
    simp at hz'; subst hz'
    have := h.us z hz
    rw [he, h1] at this
    rw [show ((k : Int)).toNat = k by omega, hk] at this
    simp at this
  · by_cases e : i = k
    · subst e; rw [List.getElem?_set_self hkl] at hi; simp at hi
    · rw [List.getElem?_set_ne (by omega)] at hi; exact h.lt i hi
  · rcases List.mem_append.1 hz with hz | hz
    · by_cases e : (ix z).toNat = k
      · rw [e, List.getElem?_set_self hkl]
      · rw [List.getElem?_set_ne (by omega)]; exact h.us z hz
    · simp at hz; subst hz
      rw [h1, show ((k : Int)).toNat = k by omega, List.getElem?_set_self hkl]
  · rw [List.map_append, List.mem_append]
    have hr := h.asc.rng _ ((wayT_is h.wy).1 z hz)
    by_cases e : ix z = k
    · right; simp [h1, e]
    · left
      rw [List.getElem?_set_ne (by omega)] at hf; exact h.pu z hz hf
theorem chain_end : ∀ {L : List Int} {a : Int}, Chain rs a L b → Chain rs a L c → b = c
  | [], a, h, k => by cases h; cases k; rfl
  | z :: L, a, ⟨_, h⟩, ⟨_, k⟩ => chain_end h k
/-- what the stack holds is no piece of the way if nothing is left at its end -/
theorem dfs_key (h : Dfs rs T a b lf W d) (hd : d ≠ b) (hn : ∀ i : Nat, lf[i]? = some true → numAt rs i d = 0) (he : wayT rs T a b = W ++ M) : False := by
  have hw := wayT_is h.wy
  rw [he] at hw
  obtain ⟨c, p1, p2, p3⟩ := trail_append.1 hw
  have hcd : c = d := chain_end p1.2.2 h.tr.2.2
  subst hcd
  cases M with
  | nil => exact hd (trail_nil.1 p2)
  | cons y M =>
    obtain ⟨q1, q2, q3, q4⟩ := trail_cons.1 p2
    have hr := h.asc.rng _ q1
    have hi : ((ix y).toNat : Int) = ix y := by omega
    have hlt : (ix y).toNat < lf.length := by rw [h.len]; omega
    cases hb : lf[(ix y).toNat] with
    | true =>
      have := hn (ix y).toNat (by rw [List.getElem?_eq_getElem hlt, hb])
      exact numAt_not this hi.symm (ix_ne h.asc q1) q2
    | false =>
      have := h.pu y (by rw [he]; simp) (by rw [List.getElem?_eq_getElem hlt, hb])
      obtain ⟨z, hz, e⟩ := List.mem_map.1 this
      exact p3 z hz y (by simp) e
theorem dfs_pop (ht : IsTree N rs T) (h : Dfs rs T a b lf (W ++ [z]) d) (hd : d ≠ b) (hn : ∀ i : Nat, lf[i]? = some true → numAt rs i d = 0) : Dfs rs T a b lf W (bg rs z) := by
  obtain ⟨c, p1, p2, p3⟩ := trail_append.1 h.tr
  obtain ⟨q1, q2, q3, q4⟩ := trail_cons.1 p2
  have hcd := trail_nil.1 q3
  subst q2
  refine ⟨h.len, h.asc, h.wy, p1, h.lt, fun y hy => h.us y (by simp [hy]), fun y hy hf => ?_⟩
  have := h.pu y hy hf
  rw [List.map_append, List.mem_append] at this
  rcases this with h' | h'
  · exact h'
  · exfalso
    simp at h'
    obtain ⟨pre, post, he⟩ := List.append_of_mem hy
    have hw := wayT_is h.wy
    rw [he] at hw
    obtain ⟨c', r1, r2, r3⟩ := trail_append.1 hw
    obtain ⟨s1, s2, s3, s4⟩ := trail_cons.1 r2
    rcases ix_same h'.symm with e | e
    · subst e
      rw [← s2] at r1
      have := trail_unique ht r1 p1
      subst this
      exact dfs_key h hd hn (M := post) (by rw [he]; simp)
    · have hz0 := ix_ne h.asc q1
      have : bg rs y = d := by rw [e, bg_neg hz0]; exact hcd
      rw [← s2, this] at r1
      have := trail_unique ht r1 h.tr
      subst this
      exact dfs_key h hd hn (M := y :: post) he
theorem dfs_some (h : Dfs rs T a b lf W d) (hd : d ≠ b) (hn : ∀ i : Nat, lf[i]? = some true → numAt rs i d = 0) : ∃ W' z, W = W' ++ [z] := by
  cases W with
  | nil => exact (dfs_key h hd hn (M := wayT rs T a b) (by simp)).elim
  | cons y M => exact ⟨(y :: M).dropLast, (y :: M).getLast (by simp), (List.dropLast_concat_getLast (by simp)).symm⟩
theorem dfs_end (ht : IsTree N rs T) (h : Dfs rs T a b lf W b) : wayT rs T a b = W := wayT_of ht h.tr
end
end Go.Proofs.Ytimghdffmdcheaa
