/-
  The reference model's AdjustTry.
-/
import Derived.Test.YtddmbjobibljaaaGreatDoorEg
namespace Go.Proofs.YtddmbjobibljaaaGreatDoor
open Go.RowKit
set_option linter.unusedVariables false

/-- a summand: the weight times the square of what heights leave of a rise -/
def tryW (hs : List Int) (r : Rn) : Int := r.g * (htAt hs r.t - htAt hs r.f - r.s) * (htAt hs r.t - htAt hs r.f - r.s)
def tryV (hs : List Int) (rs : List Rn) : Int := lsm rs (tryW hs)
theorem htOk_low {n : Int} {hs : List Int} (h : htOk n hs = true) (x : Int) : -1000000 ≤ htAt hs x ∧ htAt hs x ≤ 1000000 := by
  unfold htAt
  cases e : hs[x.toNat]? with
  | none => simp
  | some z => exact (htOk_true h).2 _ _ e
theorem tryW_low {n N : Int} {hs : List Int} {rs : List Rn} {r : Rn} (h : htOk n hs = true) (hn : nOk N rs = true) (hr : r ∈ rs) : -40000000000000 ≤ tryW hs r ∧ tryW hs r ≤ 40000000000000 := by
  obtain ⟨a1, a2, a3, a4, a5⟩ := ok_runs hn r hr
  have b1 := htOk_low h r.t
  have b2 := htOk_low h r.f
  obtain ⟨d, hd⟩ : ∃ d, htAt hs r.t - htAt hs r.f - r.s = d := ⟨_, rfl⟩
  have c1 := abs_mul (a := r.g) (b := d) (x := 9) (y := 2100000) (by omega) (by omega)
  have c2 := abs_mul (a := r.g * d) (b := d) (x := 9 * 2100000) (y := 2100000) c1 (by omega)
  unfold tryW
  rw [hd]; omega
theorem htOk_false {n : Int} {hs : List Int} (h : htOk n hs = false) (hl : (hs.length : Int) = n) : ∃ (i : Nat) (z : Int), hs[i]? = some z ∧ ¬ (-1000000 ≤ z ∧ z ≤ 1000000) := by
  unfold htOk at h
  rw [hl] at h
  simp only [decide_true, Bool.true_and] at h
  have h1 := List.all_eq_false.1 h
  obtain ⟨z, hz, hb⟩ := h1
  obtain ⟨i, hi⟩ := List.getElem?_of_mem hz
  refine ⟨i, z, hi, fun hc => hb ?_⟩
  unfold hOk; exact decide_eq_true hc
end Go.Proofs.YtddmbjobibljaaaGreatDoor
