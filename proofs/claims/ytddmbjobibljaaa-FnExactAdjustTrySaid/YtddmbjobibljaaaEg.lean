/-
  The reference model's adjusted rises and rests.
-/
import Derived.Test.YtddmbjobibljaaaEf
namespace Go.Proofs.Ytddmbjobibljaaa
open Go.RowKit
set_option linter.unusedVariables false

/-- a value as a quotient, where it is valid -/
def vT (N D : Int) : Int := if Quo.qO N D = true then Quo.T N D else 0
def vL (N D : Int) : Int := if Quo.qO N D = true then Quo.L N D else 0
theorem v_of {a b x y N D : Int} {c : Bool} (h : c = Quo.qO N D ∧ (Quo.qO N D = true → x = Quo.T N D ∧ y = Quo.L N D) ∧ (Quo.qO N D = false → x = 0 ∧ y = 0)) : x = vT N D ∧ y = vL N D ∧ c = Quo.qO N D := by
  obtain ⟨h1, h2, h3⟩ := h
  unfold vT vL
  cases hq : Quo.qO N D
  · rw [(h3 hq).1, (h3 hq).2]; exact ⟨by simp, by simp, by rw [h1, hq]⟩
  · rw [(h2 hq).1, (h2 hq).2]; exact ⟨by simp, by simp, by rw [h1, hq]⟩
/-- AdjustHeights succeeds -/
noncomputable def adjOk (n : Int) (rs : List Rn) : Bool := nWhole n rs && okH (n.toNat - 1) rs
theorem adj_true {N n : Nat} {rs : List Rn} (h : adjOk (N : Int) rs = true) (hNn : N = n + 1) : nWhole (N : Int) rs = true ∧ okH n rs = true := by
  unfold adjOk at h
  simp only [Bool.and_eq_true, Int.toNat_natCast] at h
  rw [hNn, Nat.add_sub_cancel] at h
  rw [hNn]; exact h
theorem whole_nat {n : Int} {rs : List Rn} (h : nWhole n rs = true) : ∃ N M : Nat, n = (N : Int) ∧ N = M + 1 := by
  unfold nWhole at h
  simp only [Bool.and_eq_true] at h
  have := (nOk_true h.1).1
  exact ⟨n.toNat, n.toNat - 1, by omega, by omega⟩
theorem adj_false {n : Int} {rs : List Rn} (h : adjOk n rs = false) : nWhole n rs = false ∨ ∃ N M : Nat, n = (N : Int) ∧ N = M + 1 ∧ nWhole n rs = true ∧ okH M rs = false := by
  cases hw : nWhole n rs
  · exact .inl rfl
  · right
    unfold adjOk at h
    rw [hw, Bool.true_and] at h
    obtain ⟨N, M, hN, hM⟩ := whole_nat hw
    exact ⟨N, M, hN, hM, rfl, by rw [hN, hM, Int.toNat_natCast, Nat.add_sub_cancel] at h; exact h⟩
theorem adj_nat {n : Int} {rs : List Rn} (h : adjOk n rs = true) : ∃ N M : Nat, n = (N : Int) ∧ N = M + 1 := by
  unfold adjOk at h
  simp only [Bool.and_eq_true] at h
  exact whole_nat h.1
theorem frozen_below_kE {w w' : World} {p : Addr} {v : Value} (h : Below w.heap.size w w') (hc : w.cell? p = some v) (hf : w.frozen? p = false) : w'.frozen? p = false := by
  rw [h.frozen (World.block_lt_of_cell? w _ hc)]; exact hf
/-- what AdjustRest answers -/
def rsT (n : Nat) (rs : List Rn) (r : Rn) : Int := if Quo.qO (hT n rs r.t.toNat - hT n rs r.f.toNat) (dT n rs) = true then vT (rest n rs r) (dT n rs) else 0
def rsL (n : Nat) (rs : List Rn) (r : Rn) : Int := if Quo.qO (hT n rs r.t.toNat - hT n rs r.f.toNat) (dT n rs) = true then vL (rest n rs r) (dT n rs) else 0
def rsB (n : Nat) (rs : List Rn) (r : Rn) : Bool := Quo.qO (hT n rs r.t.toNat - hT n rs r.f.toNat) (dT n rs) && Quo.qO (rest n rs r) (dT n rs)
end Go.Proofs.Ytddmbjobibljaaa
