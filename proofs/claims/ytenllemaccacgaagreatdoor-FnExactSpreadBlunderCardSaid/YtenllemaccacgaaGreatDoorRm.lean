/-
  The quotients that spreads answer; the first greatest of several numbers and of several quotients. No function of the program is named.
-/
import Derived.Test.YtenllemaccacgaaGreatDoorRa
namespace Go.Proofs.YtenllemaccacgaaGreatDoor
set_option linter.unusedVariables false

noncomputable def sprT (N : Nat) (rs : List Rn) (i j : Nat) : Int := Quo.T (spN N rs i j) (trN N rs)
noncomputable def sprL (N : Nat) (rs : List Rn) (i j : Nat) : Int := Quo.L (spN N rs i j) (trN N rs)
/-- the weight times the spread of the run's nodes, over the number of trees -/
noncomputable def gsp (N : Nat) (rs : List Rn) (r : Rn) : Int := r.g * spN N rs r.f.toNat r.t.toNat
noncomputable def srT (N : Nat) (rs : List Rn) (r : Rn) : Int := Quo.T (gsp N rs r) (trN N rs)
noncomputable def srL (N : Nat) (rs : List Rn) (r : Rn) : Int := Quo.L (gsp N rs r) (trN N rs)
noncomputable def sfT (N : Nat) (rs : List Rn) (r : Rn) : Int := Quo.T (trN N rs - gsp N rs r) (trN N rs)
noncomputable def sfL (N : Nat) (rs : List Rn) (r : Rn) : Int := Quo.L (trN N rs - gsp N rs r) (trN N rs)
section
variable {N : Nat} {rs : List Rn}
theorem spr_ok {i j : Nat} (hw : nWhole (N : Int) rs = true) (hi : i < N) (hj : j < N) : Quo.qO (spN N rs i j) (trN N rs) = true := by
  have h1 := spN_low (whole_nok hw) hi hj
  have h2 := trN_low (whole_nok hw)
  have h3 := trN_pos1 hw
  exact Quo.q_ok (by omega) (by omega) h3 (by omega)
theorem spr_val {i j : Nat} (hw : nWhole (N : Int) rs = true) (hi : i < N) (hj : j < N) : Quo.Val (sprT N rs i j) (sprL N rs i j) (spN N rs i j) (trN N rs) :=
  Quo.Val.of (by have := trN_pos1 hw; omega) (spr_ok hw hi hj)
theorem spr_self {i : Nat} (hw : nWhole (N : Int) rs = true) : sprT N rs i i = 0 ∧ sprL N rs i i = 1 := by
  unfold sprT sprL
  rw [spN_self]
  exact Quo.T_zero (by have := trN_pos1 hw; omega)
theorem spr_of {i j : Nat} (hw : nWhole (N : Int) rs = true) (hi : i < N) (hj : j < N) : Quo.rT (spN N rs i j) (trN N rs) = sprT N rs i j ∧ Quo.rL (spN N rs i j) (trN N rs) = sprL N rs i j ∧ Quo.rOk (spN N rs i j) (trN N rs) = true := by
  have h1 := spN_low (whole_nok hw) hi hj
  have h2 := trN_low (whole_nok hw)
  have h3 := trN_pos1 hw
  have h := Quo.of_is (N := spN N rs i j) (D := trN N rs) (by omega) (by omega) (by omega)
  have hq := spr_ok hw hi hj
  exact ⟨(h.2 hq).1, (h.2 hq).2, h.1.trans hq⟩
theorem gsp_le {k : Nat} {r : Rn} (hn : nOk (N : Int) rs = true) (hr : rs[k]? = some r) : 0 ≤ gsp N rs r ∧ gsp N rs r ≤ trN N rs := gsp_low hn hr
theorem sr_ok {k : Nat} {r : Rn} (hw : nWhole (N : Int) rs = true) (hr : rs[k]? = some r) : Quo.qO (gsp N rs r) (trN N rs) = true := by
  have h1 := gsp_le (whole_nok hw) hr
  have h2 := trN_low (whole_nok hw)
  have h3 := trN_pos1 hw
  exact Quo.q_ok (by omega) (by omega) h3 (by omega)
theorem sf_ok {k : Nat} {r : Rn} (hw : nWhole (N : Int) rs = true) (hr : rs[k]? = some r) : Quo.qO (trN N rs - gsp N rs r) (trN N rs) = true := by
  have h1 := gsp_le (whole_nok hw) hr
  have h2 := trN_low (whole_nok hw)
  have h3 := trN_pos1 hw
  exact Quo.q_ok (by omega) (by omega) h3 (by omega)
theorem sr_val {k : Nat} {r : Rn} (hw : nWhole (N : Int) rs = true) (hr : rs[k]? = some r) : Quo.Val (srT N rs r) (srL N rs r) (gsp N rs r) (trN N rs) :=
  Quo.Val.of (by have := trN_pos1 hw; omega) (sr_ok hw hr)
theorem sf_val {k : Nat} {r : Rn} (hw : nWhole (N : Int) rs = true) (hr : rs[k]? = some r) : Quo.Val (sfT N rs r) (sfL N rs r) (trN N rs - gsp N rs r) (trN N rs) :=
  Quo.Val.of (by have := trN_pos1 hw; omega) (sf_ok hw hr)
/-- the product, in both orders -/
theorem sr_times {k : Nat} {r : Rn} (hw : nWhole (N : Int) rs = true) (hr : rs[k]? = some r) :
    (Quo.gT (Quo.both (sprT N rs r.f.toNat r.t.toNat) (sprL N rs r.f.toNat r.t.toNat) r.g 1) (sprT N rs r.f.toNat r.t.toNat * r.g) (sprL N rs r.f.toNat r.t.toNat * 1) = srT N rs r ∧ Quo.gL (Quo.both (sprT N rs r.f.toNat r.t.toNat) (sprL N rs r.f.toNat r.t.toNat) r.g 1) (sprT N rs r.f.toNat r.t.toNat * r.g) (sprL N rs r.f.toNat r.t.toNat * 1) = srL N rs r ∧ Quo.gOk (Quo.both (sprT N rs r.f.toNat r.t.toNat) (sprL N rs r.f.toNat r.t.toNat) r.g 1) (sprT N rs r.f.toNat r.t.toNat * r.g) (sprL N rs r.f.toNat r.t.toNat * 1) = true) ∧
    (Quo.gT (Quo.both r.g 1 (sprT N rs r.f.toNat r.t.toNat) (sprL N rs r.f.toNat r.t.toNat)) (r.g * sprT N rs r.f.toNat r.t.toNat) (1 * sprL N rs r.f.toNat r.t.toNat) = srT N rs r ∧ Quo.gL (Quo.both r.g 1 (sprT N rs r.f.toNat r.t.toNat) (sprL N rs r.f.toNat r.t.toNat)) (r.g * sprT N rs r.f.toNat r.t.toNat) (1 * sprL N rs r.f.toNat r.t.toNat) = srL N rs r ∧ Quo.gOk (Quo.both r.g 1 (sprT N rs r.f.toNat r.t.toNat) (sprL N rs r.f.toNat r.t.toNat)) (r.g * sprT N rs r.f.toNat r.t.toNat) (1 * sprL N rs r.f.toNat r.t.toNat) = true) := by
  have hn := whole_nok hw
  obtain ⟨a1, a2, a3, a4, a5⟩ := ok_runs hn r (List.mem_of_getElem? hr)
  obtain ⟨e1, e2, e3, e4, e5⟩ := run_ends hn hr
  have v1 := spr_val (i := r.f.toNat) (j := r.t.toNat) hw e1 e2
  have v2 := Quo.Val.whole (x := r.g) (D := 1) (by omega) (by omega) (by omega)
  have q := sr_ok hw hr
  have t1 := v1.times v2
  have t2 := v2.times v1
  have x1 : spN N rs r.f.toNat r.t.toNat * (r.g * 1) = gsp N rs r := by unfold gsp; rw [Int.mul_one, Int.mul_comm]
  have x2 : r.g * 1 * spN N rs r.f.toNat r.t.toNat = gsp N rs r := by unfold gsp; rw [Int.mul_one]
  rw [x1, Int.mul_one (trN N rs)] at t1
  rw [x2, Int.one_mul (trN N rs)] at t2
  exact ⟨⟨(t1.2.1 q).1, (t1.2.1 q).2, t1.1.trans q⟩, ⟨(t2.2.1 q).1, (t2.2.1 q).2, t2.1.trans q⟩⟩
theorem sf_take {k : Nat} {r : Rn} (hw : nWhole (N : Int) rs = true) (hr : rs[k]? = some r) :
    Quo.gT (Quo.both 1 1 (srT N rs r) (srL N rs r)) (1 * srL N rs r - srT N rs r * 1) (1 * srL N rs r) = sfT N rs r ∧ Quo.gL (Quo.both 1 1 (srT N rs r) (srL N rs r)) (1 * srL N rs r - srT N rs r * 1) (1 * srL N rs r) = sfL N rs r ∧ Quo.gOk (Quo.both 1 1 (srT N rs r) (srL N rs r)) (1 * srL N rs r - srT N rs r * 1) (1 * srL N rs r) = true := by
  have v1 := sr_val hw hr
  have v2 := Quo.Val.whole (x := 1) (D := trN N rs) (by omega) (by omega) (by have := trN_pos1 hw; omega)
  have t := v2.take v1
  rw [Int.one_mul (trN N rs)] at t
  have q := sf_ok hw hr
  exact ⟨(t.2.1 q).1, (t.2.1 q).2, t.1.trans q⟩
end
/-- the first greatest of the first numbers -/
def bst (f : Nat → Int) : Nat → Nat
  | 0 => 0
  | k + 1 => if f (bst f k) < f k then k else bst f k
theorem bst_lt {f : Nat → Int} : ∀ {n : Nat}, 0 < n → bst f n < n
  | 1, _ => by simp [bst]
  | n + 2, _ => by
    have h := bst_lt (f := f) (n := n + 1) (by omega)
    have e : bst f (n + 2) = if f (bst f (n + 1)) < f (n + 1) then n + 1 else bst f (n + 1) := rfl
    rw [e]
    split <;> omega
theorem bst_max {f : Nat → Int} : ∀ {n k : Nat}, k < n → f k ≤ f (bst f n) ∧ (f k = f (bst f n) → bst f n ≤ k)
  | n + 1, k, h => by
    have e : bst f (n + 1) = if f (bst f n) < f n then n else bst f n := rfl
    rw [e]
    by_cases hk : k < n
    · have ih := bst_max (f := f) (n := n) hk
      split
      · exact ⟨by omega, fun h => by omega⟩
      · exact ih
    · obtain rfl : k = n := by omega
      split
      · exact ⟨Int.le_refl _, fun _ => Nat.le_refl _⟩
      · refine ⟨by omega, fun _ => ?_⟩
        rcases Nat.eq_zero_or_pos k with h0 | h0
        · subst h0; exact Nat.le_refl _
        · exact Nat.le_of_lt (bst_lt h0)
/-- how one quotient is greater than another -/
def gtq (x y : Int × Int) : Int := x.1 * y.2 - y.1 * x.2
/-- the first greatest of the first quotients -/
def gix (q : List (Int × Int)) : Nat → Nat
  | 0 => 0
  | k + 1 => if 0 < gtq ((q[k]?).getD (0, 1)) ((q[gix q k]?).getD (0, 1)) then k else gix q k
theorem gix_lt {q : List (Int × Int)} : ∀ {n : Nat}, 0 < n → gix q n < n
  | 1, _ => by
    show (if _ then 0 else 0) < 1
    split <;> omega
  | n + 2, _ => by
    have h := gix_lt (q := q) (n := n + 1) (by omega)
    have e : gix q (n + 2) = if 0 < gtq ((q[n + 1]?).getD (0, 1)) ((q[gix q (n + 1)]?).getD (0, 1)) then n + 1 else gix q (n + 1) := rfl
    rw [e]
    split <;> omega
theorem gtq_trans {x y z : Int × Int} (hx : 0 < x.2) (hy : 0 < y.2) (hz : 0 < z.2) (h1 : gtq x y ≤ 0) (h2 : 0 < gtq z y) : gtq x z < 0 := by
  unfold gtq at *
  have a : x.1 * y.2 * z.2 ≤ y.1 * x.2 * z.2 := Int.mul_le_mul_of_nonneg_right (by omega) (by omega)
  have b : y.1 * z.2 * x.2 < z.1 * y.2 * x.2 := Int.mul_lt_mul_of_pos_right (by omega) hx
  have c : x.1 * z.2 * y.2 < z.1 * x.2 * y.2 := by
    have e1 : x.1 * z.2 * y.2 = x.1 * y.2 * z.2 := by rw [Int.mul_right_comm]
    have e2 : y.1 * x.2 * z.2 = y.1 * z.2 * x.2 := by rw [Int.mul_right_comm]
    have e3 : z.1 * x.2 * y.2 = z.1 * y.2 * x.2 := by rw [Int.mul_right_comm]
    omega
  have := Int.lt_of_mul_lt_mul_right c (by omega)
  omega
theorem gtq_self (x : Int × Int) : gtq x x = 0 := by unfold gtq; omega
theorem gtq_neg (x y : Int × Int) : gtq x y = - gtq y x := by unfold gtq; omega
theorem gix_max {q : List (Int × Int)} (hq : ∀ x ∈ q, 0 < x.2) : ∀ {n k : Nat}, k < n → gtq ((q[k]?).getD (0, 1)) ((q[gix q n]?).getD (0, 1)) ≤ 0 ∧ (gtq ((q[k]?).getD (0, 1)) ((q[gix q n]?).getD (0, 1)) = 0 → gix q n ≤ k)
  | n + 1, k, h => by
    have hp : ∀ k : Nat, 0 < ((q[k]?).getD (0, 1)).2 := fun k => by
      cases e : q[k]? with
      | none => simp
      | some x => exact hq x (List.mem_of_getElem? e)
    have e : gix q (n + 1) = if 0 < gtq ((q[n]?).getD (0, 1)) ((q[gix q n]?).getD (0, 1)) then n else gix q n := rfl
    rw [e]
    by_cases hk : k < n
    · have ih := gix_max hq (n := n) hk
      split
      · rename_i hs
        have := gtq_trans (hp k) (hp _) (hp _) ih.1 hs
        exact ⟨by omega, fun h => by omega⟩
      · exact ih
    · obtain rfl : k = n := by omega
      split
      · rw [gtq_self]; exact ⟨Int.le_refl _, fun _ => Nat.le_refl _⟩
      · refine ⟨by omega, fun _ => ?_⟩
        rcases Nat.eq_zero_or_pos k with h0 | h0
        · subst h0; exact Nat.le_refl _
        · exact Nat.le_of_lt (gix_lt h0)
end Go.Proofs.YtenllemaccacgaaGreatDoor
