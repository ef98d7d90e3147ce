/-
  Rings of runs that closed rises make, and a further node that hangs on a triangle: they close. No function of the program is named.
-/
import Derived.Test.YtjfbkafekkbcdaaSz
import Derived.Test.YtjfbkafekkbcdaaLz
namespace Go.Proofs.Ytjfbkafekkbcdaa
set_option linter.unusedVariables false

def ring1 (m : Nat) (os : List Int) (i : Nat) : Rn := ⟨i, ((i + 1) % m : Nat), nth os i, 1⟩
def ringR (m : Nat) (os : List Int) : Nat → List Rn := fun j => (List.range j).map (ring1 m os)
section
variable {m j : Nat} {os : List Int}
theorem ring_len : (ringR m os j).length = j := by simp [ringR]
theorem ring_snoc : ringR m os j ++ [ring1 m os j] = ringR m os (j + 1) := by unfold ringR; rw [List.range_succ, List.map_append]; rfl
theorem ring_mem {i : Nat} (h : i < j) : ring1 m os i ∈ ringR m os j := List.mem_map.2 ⟨i, List.mem_range.2 h, rfl⟩
theorem mem_ring {r : Rn} (h : r ∈ ringR m os j) : ∃ i, i < j ∧ r = ring1 m os i := by
  obtain ⟨i, hi, rfl⟩ := List.mem_map.1 h
  exact ⟨i, List.mem_range.1 hi, rfl⟩
theorem ring_same {rs : List Rn} (hs : ∀ r ∈ ringR m os m, r ∈ rs) : ∀ i : Nat, i < m → Same rs 0 i
  | 0, _ => fun g _ => Iff.rfl
  | i + 1, hi => by
    have h1 := ring_same hs i (by omega)
    have h2 := Same.run (hs _ (ring_mem (m := m) (os := os) (j := m) (i := i) (by omega)))
    have e : (ring1 m os i).t = ((i + 1 : Nat) : Int) := by unfold ring1; rw [Nat.mod_eq_of_lt (by omega)]
    rw [e] at h2
    exact h1.trans h2
/-- the heights that the rises give -/
def ringP (os : List Int) (x : Int) : Int := sig x.toNat (nth os)
theorem ring_fit (hl : os.length = m) (h0 : tot os = 0) {i : Nat} (hi : i < m) : ringP os (ring1 m os i).t - ringP os (ring1 m os i).f = (ring1 m os i).s := by
  have e1 : ringP os (ring1 m os i).f = sig i (nth os) := by unfold ringP ring1; rw [Int.toNat_natCast]
  rw [e1]
  by_cases h : i + 1 < m
  · have e2 : ringP os (ring1 m os i).t = sig (i + 1) (nth os) := by unfold ringP ring1; rw [Nat.mod_eq_of_lt h, Int.toNat_natCast]
    rw [e2, sig_succ]
    show _ = nth os i
    omega
  · have e : i + 1 = m := by omega
    have e2 : ringP os (ring1 m os i).t = 0 := by unfold ringP ring1; rw [e, Nat.mod_self]; rfl
    have h1 : sig m (nth os) = 0 := by rw [← hl, ← tot_sig, h0]
    rw [← e, sig_succ] at h1
    rw [e2]
    show _ = nth os i
    omega
theorem ring_closes (hl : os.length = m) (h0 : tot os = 0) (hn : nOk m (ringR m os m) = true) : nWhole m (ringR m os m) = true ∧ closes m (ringR m os m) = true := by
  have hw := whole_of hn (ring_same (fun r hr => hr))
  refine ⟨hw, closes_pot.2 ⟨hw, ringP os, fun r hr => ?_⟩⟩
  obtain ⟨i, hi, rfl⟩ := mem_ring hr
  exact ring_fit hl h0 hi
/-- the further run -/
def hang : Rn := ⟨3, 1, 7, 2⟩
theorem hang_closes (hl : os.length = 3) (h0 : tot os = 0) (hn : nOk 4 (hang :: ringR 3 os 3) = true) : nWhole 4 (hang :: ringR 3 os 3) = true ∧ closes 4 (hang :: ringR 3 os 3) = true := by
  have hs : ∀ i : Nat, i < 3 → Same (hang :: ringR 3 os 3) 0 i := ring_same (fun r hr => List.mem_cons_of_mem _ hr)
  have hw : nWhole ((4 : Nat) : Int) (hang :: ringR 3 os 3) = true := whole_of hn (fun i hi => by
    by_cases e : i = 3
    · subst e
      have h1 := Same.run (rs := hang :: ringR 3 os 3) (r := hang) (by simp)
      have h2 := hs 1 (by omega)
      exact h2.trans (show Same (hang :: ringR 3 os 3) ((1 : Nat) : Int) ((3 : Nat) : Int) from h1.symm)
    · exact hs i (by omega))
  refine ⟨hw, closes_pot.2 ⟨hw, fun x => if x = 3 then ringP os 1 - 7 else ringP os x, fun r hr => ?_⟩⟩
  rcases List.mem_cons.1 hr with rfl | hr
  · show (if (1 : Int) = 3 then _ else ringP os 1) - (if (3 : Int) = 3 then ringP os 1 - 7 else _) = 7
    rw [if_neg (by omega), if_pos rfl]; omega
  · obtain ⟨i, hi, rfl⟩ := mem_ring hr
    have h1 := ring_fit (m := 3) hl h0 hi
    have e1 : ¬ (ring1 3 os i).t = 3 := by unfold ring1; have := Nat.mod_lt (i + 1) (show 0 < 3 by omega); simp only; omega
    have e2 : ¬ (ring1 3 os i).f = 3 := by unfold ring1; simp only; omega
    simp only; rw [if_neg e1, if_neg e2]; exact h1
end
end Go.Proofs.Ytjfbkafekkbcdaa
