/-
  The least sum: what AdjustSum answers is the sum of the weighted squares of the rests; no heights have a lesser one, and only the adjusted heights (shifted) have the same.
-/
import Derived.Test.YtoaomjchaihkaaaDoorEgz
namespace Go.Proofs.YtoaomjchaihkaaaDoor
open Go.RowKit
set_option linter.unusedVariables false

theorem sq_val {t l g N D : Int} (hg : 1 ≤ g ∧ g ≤ 9) (v : Quo.Val t l N D) (h : sqK t l g = true) : Quo.Val (sqT t l g) (sqL t l g) (g * (N * N)) (D * D) := by
  unfold sqK at h
  have ho : sqO t l = true := by
    cases hb : sqO t l with
    | true => rfl
    | false => rw [hb] at h; simp at h
  rw [if_pos ho] at h
  have hD := v.2.1
  have hDD : D * D ≠ 0 := Int.mul_ne_zero hD hD
  have a := v.times v
  have ho' : Quo.qO (N * N) (D * D) = true := by rw [← a.1]; exact ho
  have v1 : Quo.Val (sqA t l) (sqB t l) (N * N) (D * D) := by
    have e := a.2.1 ho'
    unfold sqA sqB
    rw [e.1, e.2]
    exact Quo.Val.of hDD ho'
  have v2 := Quo.Val.whole (x := g) (D := 1) (by omega) (by omega) (by omega)
  have b := v1.times v2
  have hb : Quo.qO (N * N * (g * 1)) (D * D * 1) = true := by rw [← b.1]; exact h
  have e := b.2.1 hb
  unfold sqT sqL
  rw [if_pos ho, if_pos ho, e.1, e.2]
  have v3 := Quo.Val.of (N := N * N * (g * 1)) (D := D * D * 1) (by rw [Int.mul_one]; exact hDD) hb
  exact v3.to hDD (by rw [Int.mul_one, Int.mul_one, Int.mul_comm g (N * N)])
theorem rs_val {n : Nat} {rs : List Rn} {r : Rn} (hD : dT n rs ≠ 0) (h : rsB n rs r = true) : Quo.Val (rsT n rs r) (rsL n rs r) (rest n rs r) (dT n rs) := by
  obtain ⟨hq1, hq2⟩ : Quo.qO (hT n rs r.t.toNat - hT n rs r.f.toNat) (dT n rs) = true ∧ Quo.qO (rest n rs r) (dT n rs) = true := by
    unfold rsB at h; simpa using h
  have hT1 : rsT n rs r = Quo.T (rest n rs r) (dT n rs) := by unfold rsT vT; rw [if_pos hq1, if_pos hq2]
  have hL1 : rsL n rs r = Quo.L (rest n rs r) (dT n rs) := by unfold rsL vL; rw [if_pos hq1, if_pos hq2]
  rw [hT1, hL1]
  exact Quo.Val.of hD hq2
theorem sumS_val {n : Nat} {rs : List Rn} (hD : dT n rs ≠ 0) : ∀ (l : List Rn) (s o : Int × Int) (A : Int), (∀ r ∈ l, 1 ≤ r.g ∧ r.g ≤ 9) → Quo.Val s.1 s.2 A (dT n rs * dT n rs) → sumS (rsT n rs) (rsL n rs) (rsB n rs) l s = some o → Quo.Val o.1 o.2 (A + lsm l (fun r => r.g * (rest n rs r * rest n rs r))) (dT n rs * dT n rs)
  | [], s, o, A, _, v, h => by
    simp only [sumS, Option.some.injEq] at h
    subst h
    have e : lsm ([] : List Rn) (fun r => r.g * (rest n rs r * rest n rs r)) = 0 := rfl
    rw [e, Int.add_zero]; exact v
  | r :: l, s, o, A, hg, v, h => by
    unfold sumS at h
    split at h
    · next hs =>
      unfold stO at hs
      simp only [Bool.and_eq_true] at hs
      obtain ⟨⟨h1, h2⟩, h3⟩ := hs
      have w := sq_val (hg r (by simp)) (rs_val hD h1) h2
      have a := v.add w
      have ho : Quo.qO (A + r.g * (rest n rs r * rest n rs r)) (dT n rs * dT n rs) = true := by rw [← a.1]; exact h3
      have e := a.2.1 ho
      have v2 : Quo.Val (stV (rsT n rs) (rsL n rs) s r).1 (stV (rsT n rs) (rsL n rs) s r).2 (A + r.g * (rest n rs r * rest n rs r)) (dT n rs * dT n rs) := by
        unfold stV
        rw [e.1, e.2]
        exact Quo.Val.of v.2.1 ho
      have ih := sumS_val hD l _ o _ (fun x hx => hg x (List.mem_cons_of_mem _ hx)) v2 h
      have e2 : lsm (r :: l) (fun r => r.g * (rest n rs r * rest n rs r)) = r.g * (rest n rs r * rest n rs r) + lsm l (fun r => r.g * (rest n rs r * rest n rs r)) := rfl
      rw [e2, ← Int.add_assoc]
      exact ih
    · cases h
theorem smV_val {n : Nat} {rs : List Rn} {o : Int × Int} (hD : dT n rs ≠ 0) (hg : ∀ r ∈ rs, 1 ≤ r.g ∧ r.g ≤ 9) (h : smV n rs = some o) : Quo.Val o.1 o.2 (lsm rs (fun r => r.g * (rest n rs r * rest n rs r))) (dT n rs * dT n rs) := by
  have := sumS_val hD rs (0, 1) o 0 hg (by
    have v := Quo.Val.whole (x := 0) (D := dT n rs * dT n rs) (by omega) (by omega) (Int.mul_ne_zero hD hD)
    rw [Int.zero_mul] at v; exact v) h
  rw [Int.zero_add] at this
  exact this
/-- how far heights are from the adjusted ones -/
def farY (n : Nat) (rs : List Rn) (x : Nat → Int) (r : Rn) : Int := dT n rs * (x r.t.toNat - x r.f.toNat) - (hT n rs r.t.toNat - hT n rs r.f.toNat)
def farS (n : Nat) (rs : List Rn) (x : Nat → Int) : Int := lsm rs (fun r => r.g * (farY n rs x r * farY n rs x r))
theorem sq_nn (a : Int) : 0 ≤ a * a := by
  rcases Int.le_total 0 a with h | h
  · exact Int.mul_nonneg h h
  · exact Int.mul_nonneg_of_nonpos_of_nonpos h h
theorem lsm_nn : ∀ (l : List Rn) (F : Rn → Int), (∀ r ∈ l, 0 ≤ F r) → 0 ≤ lsm l F ∧ (lsm l F = 0 → ∀ r ∈ l, F r = 0)
  | [], F, _ => ⟨Int.le_refl _, fun _ r hr => by cases hr⟩
  | a :: l, F, h => by
    have e : lsm (a :: l) F = F a + lsm l F := rfl
    obtain ⟨i1, i2⟩ := lsm_nn l F (fun r hr => h r (List.mem_cons_of_mem _ hr))
    have h0 := h a (by simp)
    rw [e]
    refine ⟨by omega, fun hz r hr => ?_⟩
    rcases List.mem_cons.1 hr with rfl | hr
    · omega
    · exact i2 (by omega) r hr
theorem far_nn {n : Nat} {rs : List Rn} (hg : ∀ r ∈ rs, 1 ≤ r.g) (x : Nat → Int) : 0 ≤ farS n rs x := (lsm_nn rs _ (fun r hr => Int.mul_nonneg (by have := hg r hr; omega) (sq_nn _))).1
theorem far_zero {n : Nat} {rs : List Rn} (hg : ∀ r ∈ rs, 1 ≤ r.g) (hw : Spn (n + 1) S0 rs) (hin : InN (n + 1) rs) (x : Nat → Int) : farS n rs x = 0 ↔ ∀ i, i < n + 1 → (x i - x 0) * dT n rs = hT n rs i := by
  constructor
  · intro h
    have hz := (lsm_nn rs (fun r => r.g * (farY n rs x r * farY n rs x r)) (fun r hr => Int.mul_nonneg (by have := hg r hr; omega) (sq_nn _))).2 h
    have hy : ∀ r ∈ rs, farY n rs x r = 0 := fun r hr => by
      have h1 := hz r hr
      have h2 := hg r hr
      rcases Int.mul_eq_zero.1 h1 with h3 | h3
      · omega
      · rcases Int.mul_eq_zero.1 h3 with h4 | h4 <;> exact h4
    have hs := hw (fun z => (x z.toNat - x 0) * dT n rs ≠ hT n rs z.toNat) (fun r hr => by
      have := hy r hr
      unfold farY at this
      constructor
      · intro h1 h2; apply h1; grind
      · intro h1 h2; apply h1; grind) (fun s hs h1 => by
      have h0 : s = 0 := by simpa [S0] using h1
      subst h0
      intro h2; apply h2
      simp [hT])
    intro i hi
    have := hs i hi
    simpa using this
  · intro h
    have hy : ∀ r ∈ rs, farY n rs x r = 0 := fun r hr => by
      obtain ⟨a1, a2, a3, a4⟩ := hin r hr
      have e1 := h r.f.toNat (by omega)
      have e2 := h r.t.toNat (by omega)
      unfold farY
      grind
    unfold farS
    have e : lsm rs (fun r => r.g * (farY n rs x r * farY n rs x r)) = lsm rs (fun r => 0 * (r.g * r.g)) := lsm_congr (fun r hr => by rw [hy r hr]; simp)
    rw [e, lsm_mulL, Int.zero_mul]
theorem least_far {n : Nat} {rs : List Rn} (hin : InN (n + 1) rs) (x : Nat → Int) :
    dT n rs * dT n rs * lsm rs (fun r => r.g * ((x r.t.toNat - x r.f.toNat - r.s) * (x r.t.toNat - x r.f.toNat - r.s))) = lsm rs (fun r => r.g * (rest n rs r * rest n rs r)) + farS n rs x := least_split hin x
/-- the sign of a sum less the least one -/
theorem least_sign {n : Nat} {rs : List Rn} {t l out : Int} (hin : InN (n + 1) rs) (hD : dT n rs ≠ 0) (x : Nat → Int) (hx : out = lsm rs (fun r => r.g * ((x r.t.toNat - x r.f.toNat - r.s) * (x r.t.toNat - x r.f.toNat - r.s))))
    (v : Quo.Val t l (lsm rs (fun r => r.g * (rest n rs r * rest n rs r))) (dT n rs * dT n rs)) : (out * l - t) * (dT n rs * dT n rs) = l * farS n rs x := by
  have h := least_far hin x
  rw [← hx] at h
  have h2 := v.2.2
  grind
end Go.Proofs.YtoaomjchaihkaaaDoor
