/-
  Adjusted heights as quotients of determinants: the equations that they solve, that nothing else solves them, and what a change of the net leaves of them. No function of the program is named.
-/
import Derived.Test.YtoaomjchaihkaaaGreatDoorZi
namespace Go.Proofs.YtoaomjchaihkaaaGreatDoor
set_option linter.unusedVariables false

/-- the determinant of a net's matrix, for all its nodes -/
def dT (n : Nat) (rs : List Rn) : Int := det n (lap0 rs)
/-- what stands above the determinant in the adjusted height of a node -/
def nT (n : Nat) (rs : List Rn) (j : Nat) : Int := det n (upc (lap0 rs) j (fun i => srcs rs (i + 1)))
/-- .. with the node 0 -/
def hT (n : Nat) (rs : List Rn) : Nat → Int
  | 0 => 0
  | j + 1 => nT n rs j
/-- numbers at the nodes solve the equations of a net times c -/
def Solves (n : Nat) (rs : List Rn) (c : Int) (x : Nat → Int) : Prop := ∀ i, i < n → smn n (fun k => lap0 rs i k * x (k + 1)) = c * srcs rs (i + 1)
theorem hT_solves (n : Nat) (rs : List Rn) : Solves n rs (dT n rs) (hT n rs) := fun i hi => by
  have := cramer (n := n) (lap0 rs) (fun i => srcs rs (i + 1)) hi
  rw [Int.mul_comm] at this
  exact this
theorem Solves.eq {n : Nat} {rs : List Rn} {c : Int} {x : Nat → Int} (h : Solves n rs c x) {j : Nat} (hj : j < n) : dT n rs * x (j + 1) = c * nT n rs j := by
  have h1 := cramer_back (n := n) (lap0 rs) hj (fun k => x (k + 1))
  rw [det_congr (b := upc (lap0 rs) j (fun i => c * srcs rs (i + 1) + 0 * 0)) (fun i k hi hk => by
    by_cases e : k = j
    · subst e; rw [upd_at, upd_at, h i hi]; omega
    · rw [upd_ne e, upd_ne e]), det_lin (lap0 rs) j (fun i => srcs rs (i + 1)) (fun _ => 0) c 0 hj, Int.zero_mul, Int.add_zero] at h1
  rw [Int.mul_comm (dT n rs)]
  exact h1.symm
/-- .. at all nodes, where the node 0 has 0 -/
theorem Solves.all {n : Nat} {rs : List Rn} {c : Int} {x : Nat → Int} (h : Solves n rs c x) (h0 : x 0 = 0) {j : Nat} (hj : j < n + 1) : dT n rs * x j = c * hT n rs j := by
  match j, hj with
  | 0, _ => rw [h0]; simp [hT]
  | j + 1, hj => exact h.eq (by omega)
/-- the sum at a node of the weights times what numbers leave of the rises -/
def bal (rs : List Rn) (c : Int) (x : Nat → Int) (i : Nat) : Int := lsm rs (fun r => r.g * inc r i * (x r.t.toNat - x r.f.toNat - c * r.s))
theorem lsm_sub (rs : List Rn) (F G : Rn → Int) : lsm rs (fun r => F r - G r) = lsm rs F - lsm rs G := by
  induction rs with
  | nil => rfl
  | cons r rs ih => simp only [lsm]; rw [ih]; omega
theorem lsm_addF (rs : List Rn) (F G : Rn → Int) : lsm rs (fun r => F r + G r) = lsm rs F + lsm rs G := by
  induction rs with
  | nil => rfl
  | cons r rs ih => simp only [lsm]; rw [ih]; omega
theorem lsm_mulL (rs : List Rn) (F : Rn → Int) (x : Int) : lsm rs (fun r => x * F r) = x * lsm rs F := by
  rw [Int.mul_comm x, lsm_mul]
  exact lsm_congr (fun r _ => Int.mul_comm _ _)
theorem bal_split (rs : List Rn) (c : Int) (x : Nat → Int) (i : Nat) : bal rs c x i = lsm rs (fun r => r.g * inc r i * (x r.t.toNat - x r.f.toNat)) - c * srcs rs i := by
  unfold bal srcs
  rw [← lsm_mulL, ← lsm_sub]
  refine lsm_congr (fun r _ => ?_)
  rw [Int.mul_sub]
  congr 1
  simp only [Int.mul_comm, Int.mul_left_comm, Int.mul_assoc]
/-- numbers that solve the equations balance at each node but the node 0 .. -/
theorem Solves.bal {n : Nat} {rs : List Rn} {c : Int} {x : Nat → Int} (hin : InN (n + 1) rs) (h : Solves n rs c x) (h0 : x 0 = 0) {i : Nat} (hi : i < n) : bal rs c x (i + 1) = 0 := by
  rw [bal_split, ← lap_apply hin (i + 1) x, sm_head, h0, Int.mul_zero, Int.zero_add]
  have := h i hi
  unfold lap0 at this
  rw [this]; omega
/-- .. and there too -/
theorem bal_sum {N : Nat} {rs : List Rn} (hin : InN N rs) (c : Int) (x : Nat → Int) (y : Nat → Int) : smn N (fun i => Go.Proofs.YtoaomjchaihkaaaGreatDoor.bal rs c x i * y i) = lsm rs (fun r => r.g * (x r.t.toNat - x r.f.toNat - c * r.s) * (y r.t.toNat - y r.f.toNat)) := by
  unfold Go.Proofs.YtoaomjchaihkaaaGreatDoor.bal
  rw [sm_congr (g := fun i => lsm rs (fun r => (r.g * (x r.t.toNat - x r.f.toNat - c * r.s)) * (inc r i * y i))) (fun i _ => by
    rw [lsm_mul]
    exact lsm_congr (fun r _ => by
      rw [Int.mul_assoc r.g, Int.mul_comm (inc r i), ← Int.mul_assoc, Int.mul_assoc])), smn_lsm]
  refine lsm_congr (fun r hr => ?_)
  rw [sm_mul, inc_sum (hin r hr) y]
theorem Solves.bal0 {n : Nat} {rs : List Rn} {c : Int} {x : Nat → Int} (hin : InN (n + 1) rs) (h : Solves n rs c x) (h0 : x 0 = 0) : Go.Proofs.YtoaomjchaihkaaaGreatDoor.bal rs c x 0 = 0 := by
  have h1 := bal_sum hin c x (fun _ => 1)
  rw [sm_head, sm_zero (fun i hi => by rw [h.bal hin h0 hi]; rfl), lsm_zero (fun r _ => by rw [Int.sub_self, Int.mul_zero])] at h1
  omega
theorem Solves.balN {n : Nat} {rs : List Rn} {c : Int} {x : Nat → Int} (hin : InN (n + 1) rs) (h : Solves n rs c x) (h0 : x 0 = 0) {i : Nat} (hi : i < n + 1) : Go.Proofs.YtoaomjchaihkaaaGreatDoor.bal rs c x i = 0 := by
  match i, hi with
  | 0, _ => exact h.bal0 hin h0
  | i + 1, hi => exact h.bal hin h0 (by omega)
/-- what balances solves -/
theorem Solves.of {n : Nat} {rs : List Rn} {c : Int} {x : Nat → Int} (hin : InN (n + 1) rs) (h0 : x 0 = 0) (h : ∀ i, i < n → Go.Proofs.YtoaomjchaihkaaaGreatDoor.bal rs c x (i + 1) = 0) : Solves n rs c x := fun i hi => by
  have h1 := h i hi
  rw [bal_split, ← lap_apply hin (i + 1) x, sm_head, h0, Int.mul_zero, Int.zero_add] at h1
  unfold lap0
  omega
/-- weighted sums against balanced numbers vanish -/
theorem Solves.cross {n : Nat} {rs : List Rn} {c : Int} {x : Nat → Int} (hin : InN (n + 1) rs) (h : Solves n rs c x) (h0 : x 0 = 0) (y : Nat → Int) : lsm rs (fun r => r.g * (x r.t.toNat - x r.f.toNat - c * r.s) * (y r.t.toNat - y r.f.toNat)) = 0 := by
  rw [← bal_sum hin c x y]
  exact sm_zero (fun i hi => by rw [h.balN hin h0 hi, Int.zero_mul])
/-- two nets of which one's numbers solve the other's equations have the same adjusted heights -/
theorem same_heights {n : Nat} {rs rs' : List Rn} (h : Solves n rs' (dT n rs) (hT n rs)) {j : Nat} (hj : j < n + 1) : dT n rs' * hT n rs j = dT n rs * hT n rs' j := h.all rfl hj
/-- heights that fit solve the equations -/
theorem fits_solves {n : Nat} {rs : List Rn} (hin : InN (n + 1) rs) (x : Nat → Int) (h0 : x 0 = 0) (h : ∀ r ∈ rs, x r.t.toNat - x r.f.toNat = r.s) : Solves n rs 1 x := Solves.of hin h0 (fun i _ => by
  unfold Go.Proofs.YtoaomjchaihkaaaGreatDoor.bal
  exact lsm_zero (fun r hr => by rw [h r hr, Int.one_mul, Int.sub_self, Int.mul_zero]))
theorem inc_turn (r : Rn) (i : Nat) : inc ⟨r.t, r.f, -r.s, r.g⟩ i = -inc r i := by unfold inc; simp only []; omega
/-- the rest of a run times the determinant -/
def rest (n : Nat) (rs : List Rn) (r : Rn) : Int := hT n rs r.t.toNat - hT n rs r.f.toNat - dT n rs * r.s
/-- .. is 0 where only this run leads out of some nodes -/
theorem rest_bridge {n k : Nat} {rs : List Rn} {r : Rn} (hin : InN (n + 1) rs) (hr : rs[k]? = some r) (hg : r.g ≠ 0) (φ : Nat → Int) (h1 : ∀ x ∈ rs.eraseIdx k, φ x.t.toNat = φ x.f.toNat) (h2 : φ r.t.toNat ≠ φ r.f.toNat) : rest n rs r = 0 := by
  have h := (hT_solves n rs).cross hin rfl φ
  rw [lsm_erase hr, lsm_zero (fun x hx => by rw [h1 x hx, Int.sub_self, Int.mul_zero]), Int.add_zero] at h
  have h3 : φ r.t.toNat - φ r.f.toNat ≠ 0 := by omega
  rcases Int.mul_eq_zero.1 h with h4 | h4
  · rcases Int.mul_eq_zero.1 h4 with h5 | h5
    · exact absurd h5 hg
    · exact h5
  · exact absurd h4 h3
theorem rest_bridge_not {n k : Nat} {rs : List Rn} {r : Rn} (hin : InN (n + 1) rs) (hr : rs[k]? = some r) (hg : r.g ≠ 0) (hw : Spn (n + 1) S0 rs) (hno : ¬ Spn (n + 1) S0 (rs.eraseIdx k)) : rest n rs r = 0 := by
  unfold Spn at hno
  simp only [Classical.not_forall] at hno
  obtain ⟨φ, h1, h2, i, hi, h3⟩ := hno
  have h3 : φ i := Classical.byContradiction h3
  classical
  have hm : r ∈ rs := List.mem_of_getElem? hr
  have hne : ¬ (φ r.f ↔ φ r.t) := fun h => hw φ (fun x hx => by
    have hp := (erase_perm hr).mem_iff.1 hx
    rcases List.mem_cons.1 hp with e | e
    · subst e; exact h
    · exact h1 x e) h2 i hi h3
  have hin2 : ∀ x ∈ rs, ((x.t.toNat : Nat) : Int) = x.t ∧ ((x.f.toNat : Nat) : Int) = x.f := fun x hx => by have := hin x hx; omega
  refine rest_bridge hin hr hg (fun i => if φ (i : Int) then 1 else 0) (fun x hx => ?_) ?_
  · have hx' : x ∈ rs := List.eraseIdx_subset hx
    have := h1 x hx
    simp only [(hin2 x hx').1, (hin2 x hx').2]
    by_cases c : φ x.t
    · rw [if_pos c, if_pos (this.2 c)]
    · rw [if_neg c, if_neg (fun h => c (this.1 h))]
  · simp only [(hin2 r hm).1, (hin2 r hm).2]
    intro h
    apply hne
    by_cases c : φ r.t <;> by_cases d : φ r.f <;> simp_all
/-- with all weights doubled the heights are the same -/
theorem srcs_dbl (rs : List Rn) (i : Nat) : srcs (rs.map (fun r => ⟨r.f, r.t, r.s, 2 * r.g⟩)) i = 2 * srcs rs i := by
  unfold srcs
  rw [← lsm_mulL]
  induction rs with
  | nil => rfl
  | cons r rs ih => simp only [List.map_cons, lsm]; rw [ih]; congr 1; simp only [inc, Int.mul_assoc]
theorem bal_dbl (rs : List Rn) (c : Int) (x : Nat → Int) (i : Nat) : bal (rs.map (fun r => ⟨r.f, r.t, r.s, 2 * r.g⟩)) c x i = 2 * bal rs c x i := by
  unfold bal
  rw [← lsm_mulL]
  induction rs with
  | nil => rfl
  | cons r rs ih => simp only [List.map_cons, lsm]; rw [ih]; congr 1; simp only [inc, Int.mul_assoc]
theorem dbl_solves {n : Nat} {rs : List Rn} (hin : InN (n + 1) rs) : Solves n (rs.map (fun r => ⟨r.f, r.t, r.s, 2 * r.g⟩)) (dT n rs) (hT n rs) := Solves.of (fun r hr => by
  obtain ⟨x, hx, rfl⟩ := List.mem_map.1 hr
  exact hin x hx) rfl (fun i hi => by rw [bal_dbl, (hT_solves n rs).bal hin rfl hi]; rfl)
/-- without a run that has no rest, too -/
theorem drop_solves {n k : Nat} {rs : List Rn} {r : Rn} (hin : InN (n + 1) rs) (hr : rs[k]? = some r) (h0 : rest n rs r = 0) : Solves n (rs.eraseIdx k) (dT n rs) (hT n rs) := Solves.of (fun r hr => hin r (List.eraseIdx_subset hr)) rfl (fun i hi => by
  have h := (hT_solves n rs).bal hin rfl hi
  unfold bal at h ⊢
  rw [lsm_erase hr] at h
  unfold rest at h0
  rw [h0, Int.mul_zero, Int.zero_add] at h
  exact h)
/-- a run turned changes nothing -/
theorem turn_solves {n k : Nat} {rs : List Rn} {r : Rn} (hin : InN (n + 1) rs) (hr : rs[k]? = some r) : Solves n (rs.set k ⟨r.t, r.f, -r.s, r.g⟩) (dT n rs) (hT n rs) := by
  have hin' : InN (n + 1) (rs.set k ⟨r.t, r.f, -r.s, r.g⟩) := fun x hx => by
    rcases List.mem_or_eq_of_mem_set hx with h | h
    · exact hin x h
    · have := hin r (List.mem_of_getElem? hr)
      rw [h]; exact ⟨this.2.2.1, this.2.2.2, this.1, this.2.1⟩
  refine Solves.of hin' rfl (fun i hi => ?_)
  have h := (hT_solves n rs).bal hin rfl hi
  unfold bal at h ⊢
  rw [lsm_set hr]
  have e : (⟨r.t, r.f, -r.s, r.g⟩ : Rn).g * inc ⟨r.t, r.f, -r.s, r.g⟩ (i + 1) * (hT n rs r.f.toNat - hT n rs r.t.toNat - dT n rs * -r.s) = r.g * inc r (i + 1) * (hT n rs r.t.toNat - hT n rs r.f.toNat - dT n rs * r.s) := by
    rw [inc_turn]
    have e2 : hT n rs r.f.toNat - hT n rs r.t.toNat - dT n rs * -r.s = -(hT n rs r.t.toNat - hT n rs r.f.toNat - dT n rs * r.s) := by rw [Int.mul_neg]; omega
    rw [e2, Int.mul_neg, Int.mul_neg, Int.neg_mul, Int.neg_neg]
  show lsm rs _ - _ + _ = 0
  rw [e]
  omega
theorem bal_shift (l : List Rn) (g H : Nat → Int) (D : Int) (i : Nat) : bal (l.map (fun r => ⟨r.f, r.t, r.s + g r.t.toNat - g r.f.toNat, r.g⟩)) D (fun i => H i + D * (g i - g 0)) i = bal l D H i := by
  unfold bal
  induction l with
  | nil => rfl
  | cons r l ih =>
    simp only [List.map_cons, lsm]
    rw [ih]
    congr 1
    have e : H r.t.toNat + D * (g r.t.toNat - g 0) - (H r.f.toNat + D * (g r.f.toNat - g 0)) - D * (r.s + g r.t.toNat - g r.f.toNat) = H r.t.toNat - H r.f.toNat - D * r.s := by
      rw [Int.mul_sub, Int.mul_sub, Int.mul_sub, Int.mul_add]; omega
    rw [e]; rfl
/-- with the rises of numbers g at the nodes added the heights are as much higher -/
theorem shift_solves {n : Nat} {rs : List Rn} (hin : InN (n + 1) rs) (g : Nat → Int) : Solves n (rs.map (fun r => ⟨r.f, r.t, r.s + g r.t.toNat - g r.f.toNat, r.g⟩)) (dT n rs) (fun i => hT n rs i + dT n rs * (g i - g 0)) := Solves.of (fun r hr => by
  obtain ⟨x, hx, rfl⟩ := List.mem_map.1 hr
  exact hin x hx) (by simp [hT]) (fun i hi => by rw [bal_shift]; exact (hT_solves n rs).bal hin rfl hi)
/-- the least sum: what other whole heights leave, times the square of the determinant -/
theorem least_split {n : Nat} {rs : List Rn} (hin : InN (n + 1) rs) (x : Nat → Int) :
    dT n rs * dT n rs * lsm rs (fun r => r.g * ((x r.t.toNat - x r.f.toNat - r.s) * (x r.t.toNat - x r.f.toNat - r.s))) = lsm rs (fun r => r.g * (rest n rs r * rest n rs r)) + lsm rs (fun r => r.g * ((dT n rs * (x r.t.toNat - x r.f.toNat) - (hT n rs r.t.toNat - hT n rs r.f.toNat)) * (dT n rs * (x r.t.toNat - x r.f.toNat) - (hT n rs r.t.toNat - hT n rs r.f.toNat)))) := by
  have h := (hT_solves n rs).cross hin rfl (fun i => dT n rs * x i - hT n rs i)
  rw [← lsm_mulL, ← lsm_addF]
  have e : lsm rs (fun r => dT n rs * dT n rs * (r.g * ((x r.t.toNat - x r.f.toNat - r.s) * (x r.t.toNat - x r.f.toNat - r.s)))) = lsm rs (fun r => (r.g * (rest n rs r * rest n rs r) + r.g * ((dT n rs * (x r.t.toNat - x r.f.toNat) - (hT n rs r.t.toNat - hT n rs r.f.toNat)) * (dT n rs * (x r.t.toNat - x r.f.toNat) - (hT n rs r.t.toNat - hT n rs r.f.toNat)))) + 2 * (r.g * (hT n rs r.t.toNat - hT n rs r.f.toNat - dT n rs * r.s) * ((dT n rs * x r.t.toNat - hT n rs r.t.toNat) - (dT n rs * x r.f.toNat - hT n rs r.f.toNat)))) := lsm_congr (fun r _ => by unfold rest; grind)
  rw [e, lsm_addF, lsm_mulL, h, Int.mul_zero, Int.add_zero]
end Go.Proofs.YtoaomjchaihkaaaGreatDoor
