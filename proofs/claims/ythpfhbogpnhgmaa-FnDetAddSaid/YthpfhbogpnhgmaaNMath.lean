/-
  Nets as lists of runs: when they are valid. No function of the program is named.
-/
import Derived.Test.YthpfhbogpnhgmaaNd
namespace Go.Proofs.Ythpfhbogpnhgmaa
set_option linter.unusedVariables false

def rOk (n : Int) (r : Rn) : Bool :=
  decide (0 ≤ r.f ∧ r.f < n) && decide (0 ≤ r.t ∧ r.t < n) && !decide (r.f = r.t) && decide (-100000 ≤ r.s ∧ r.s ≤ 100000) && decide (1 ≤ r.g ∧ r.g ≤ 9)
def nOk (n : Int) (rs : List Rn) : Bool := decide (2 ≤ n ∧ n ≤ 6) && decide (rs.length ≤ 12) && rs.all (rOk n)

theorem rOk_true {n : Int} {r : Rn} (h : rOk n r = true) : 0 ≤ r.f ∧ r.f < n ∧ 0 ≤ r.t ∧ r.t < n ∧ r.f ≠ r.t ∧ -100000 ≤ r.s ∧ r.s ≤ 100000 ∧ 1 ≤ r.g ∧ r.g ≤ 9 := by
  simp [rOk] at h; omega
theorem rOk_of {n : Int} {r : Rn} (h1 : 0 ≤ r.f) (h2 : r.f < n) (h3 : 0 ≤ r.t) (h4 : r.t < n) (h5 : r.f ≠ r.t) (h6 : -100000 ≤ r.s) (h7 : r.s ≤ 100000) (h8 : 1 ≤ r.g) (h9 : r.g ≤ 9) : rOk n r = true := by
  simp [rOk]; omega
theorem nOk_true {n : Int} {rs : List Rn} (h : nOk n rs = true) : 2 ≤ n ∧ n ≤ 6 ∧ rs.length ≤ 12 ∧ ∀ (i : Nat) (r : Rn), rs[i]? = some r → rOk n r = true := by
  simp [nOk] at h
  obtain ⟨⟨⟨h1, h2⟩, h3⟩, h4⟩ := h
  exact ⟨h1, h2, h3, fun i r hi => h4 r (List.mem_of_getElem? hi)⟩
theorem nOk_of {n : Int} {rs : List Rn} (h1 : 2 ≤ n) (h2 : n ≤ 6) (h3 : rs.length ≤ 12) (h4 : ∀ (i : Nat) (r : Rn), rs[i]? = some r → rOk n r = true) : nOk n rs = true := by
  have h5 : ∀ r ∈ rs, rOk n r = true := fun r hr => by
    obtain ⟨i, hi⟩ := List.getElem?_of_mem hr
    exact h4 i r hi
  simp [nOk, h1, h2, h3]
  exact h5
theorem nOk_no {n : Int} {rs : List Rn} {i : Nat} {r : Rn} (hi : rs[i]? = some r) (h : rOk n r = false) : nOk n rs = false := by
  rw [Bool.eq_false_iff]; intro hn
  have := (nOk_true hn).2.2.2 i r hi
  rw [h] at this; cases this
theorem nOk_size {n : Int} {rs : List Rn} (h : ¬ (2 ≤ n ∧ n ≤ 6 ∧ rs.length ≤ 12)) : nOk n rs = false := by
  rw [Bool.eq_false_iff]; intro hn
  obtain ⟨h1, h2, h3, _⟩ := nOk_true hn
  exact h ⟨h1, h2, h3⟩
/-- all the first k runs are valid -/
def okTo (n : Int) (rs : List Rn) (k : Nat) : Prop := ∀ (i : Nat) (r : Rn), i < k → rs[i]? = some r → rOk n r = true
theorem okTo_zero (n : Int) (rs : List Rn) : okTo n rs 0 := fun _ _ h => by omega
theorem okTo_succ {n : Int} {rs : List Rn} {k : Nat} {r : Rn} (h : okTo n rs k) (hr : rs[k]? = some r) (hk : rOk n r = true) : okTo n rs (k + 1) := fun i r' hi hr' => by
  by_cases e : i = k
  · subst e; rw [hr] at hr'; cases hr'; exact hk
  · exact h i r' (by omega) hr'
theorem nOk_of_to {n : Int} {rs : List Rn} (h1 : 2 ≤ n) (h2 : n ≤ 6) (h3 : rs.length ≤ 12) (h : okTo n rs rs.length) : nOk n rs = true :=
  nOk_of h1 h2 h3 fun i r hi => h i r (List.getElem?_eq_some_iff.1 hi).1 hi
end Go.Proofs.Ythpfhbogpnhgmaa
