/-
  The quotients of spreads: always valid, and compared by their numerators. No function of the program is named.
-/
import Derived.Test.YtenllemaccacgaaGreatDoorWz
import Derived.Test.YtenllemaccacgaaGreatDoorEc
import Derived.Test.YtenllemaccacgaaGreatDoorZi
import Derived.Test.YtenllemaccacgaaGreatDoorZj
namespace Go.Proofs.YtenllemaccacgaaGreatDoor
set_option linter.unusedVariables false

theorem chs_low : ∀ m, m < 13 → ∀ c, c < 6 → chs m c ≤ 1000 := by decide
theorem pow9_low : ∀ c, c < 6 → 9 ^ c ≤ 100000 := by decide
theorem sbw_low {rs : List Rn} {P : List Rn → Prop} {c : Nat} (hg : ∀ r ∈ rs, 1 ≤ r.g ∧ r.g ≤ 9) (hl : rs.length ≤ 12) (hc : c ≤ 5) (hP : ∀ T, P T → T.length = c) : sbw rs P ≤ 100000000 := by
  have h1 := sbw_high rs P c hg hP
  have h2 := Nat.mul_le_mul (chs_low rs.length (by omega) c (by omega)) (pow9_low c (by omega))
  have h3 : ((chs rs.length c * 9 ^ c : Nat) : Int) = (chs rs.length c : Int) * 9 ^ c := by rw [Int.natCast_mul, Int.natCast_pow]; rfl
  omega
theorem wgt {n : Int} {rs : List Rn} (hn : nOk n rs = true) : ∀ r ∈ rs, 1 ≤ r.g ∧ r.g ≤ 9 := fun r hr => ⟨(ok_runs hn r hr).2.1, (ok_runs hn r hr).2.2.1⟩
theorem wgt1 {n : Int} {rs : List Rn} (hn : nOk n rs = true) : ∀ r ∈ rs, 1 ≤ r.g := fun r hr => (ok_runs hn r hr).2.1
theorem spN_low {N i j : Nat} {rs : List Rn} (hn : nOk (N : Int) rs = true) (hi : i < N) (hj : j < N) : 0 ≤ spN N rs i j ∧ spN N rs i j ≤ 100000000 := by
  refine ⟨spN_nn (wgt1 hn), ?_⟩
  by_cases h : i = j
  · subst h; rw [spN_self]; omega
  · rw [spN_ne h]
    have h6 := (nOk_true hn).2.1
    exact sbw_low (c := N - 2) (wgt hn) (nOk_true hn).2.2.1 (by omega) (fun T hT => by
      have h1 := hT.1
      rw [cnt_S2 h hi hj] at h1
      omega)
theorem trN_low {N : Nat} {rs : List Rn} (hn : nOk (N : Int) rs = true) : 0 ≤ trN N rs ∧ trN N rs ≤ 100000000 := by
  refine ⟨trN_nn (wgt1 hn), ?_⟩
  have h6 := (nOk_true hn).2.1
  have h2 := (nOk_true hn).1
  obtain ⟨n, rfl⟩ : ∃ n, N = n + 1 := ⟨N - 1, by omega⟩
  exact sbw_low (c := n) (wgt hn) (nOk_true hn).2.2.1 (by omega) (fun T hT => by
    have h1 := hT.1
    rw [cnt_S0] at h1
    omega)
theorem trN_whole {N : Nat} {rs : List Rn} (hn : nOk (N : Int) rs = true) : 0 < trN N rs ↔ nWhole (N : Int) rs = true := (trN_pos (nOk_in hn) (wgt1 hn)).trans (whole_spn hn).symm
theorem whole_nok {n : Int} {rs : List Rn} (h : nWhole n rs = true) : nOk n rs = true := by
  unfold nWhole at h
  rw [Bool.and_eq_true] at h
  exact h.1
theorem trN_pos1 {N : Nat} {rs : List Rn} (h : nWhole (N : Int) rs = true) : 0 < trN N rs := (trN_whole (whole_nok h)).2 h
theorem run_ends {N : Nat} {rs : List Rn} {k : Nat} {r : Rn} (hn : nOk (N : Int) rs = true) (hr : rs[k]? = some r) : r.f.toNat < N ∧ r.t.toNat < N ∧ r.f.toNat ≠ r.t.toNat ∧ (r.f.toNat : Int) = r.f ∧ (r.t.toNat : Int) = r.t := by
  have h1 := nOk_in hn r (List.mem_of_getElem? hr)
  have h2 := (ok_runs hn r (List.mem_of_getElem? hr)).1
  omega
/-- the weight times the spread of its nodes is at most 1 -/
theorem gsp_low {N : Nat} {rs : List Rn} {k : Nat} {r : Rn} (hn : nOk (N : Int) rs = true) (hr : rs[k]? = some r) : 0 ≤ r.g * spN N rs r.f.toNat r.t.toNat ∧ r.g * spN N rs r.f.toNat r.t.toNat ≤ trN N rs := by
  have h1 := ok_runs hn r (List.mem_of_getElem? hr)
  have h2 := (spN_erase (nOk_in hn) hr h1.1).2
  have h3 : 0 ≤ trN N (rs.eraseIdx k) := trN_nn (fun x hx => wgt1 hn x (List.eraseIdx_subset hx))
  have h4 := Int.mul_nonneg (show 0 ≤ r.g by omega) (spN_nn (N := N) (i := r.f.toNat) (j := r.t.toNat) (wgt1 hn))
  omega
theorem gsp_pos {N : Nat} {rs : List Rn} {k : Nat} {r : Rn} (hw : nWhole (N : Int) rs = true) (hr : rs[k]? = some r) : 0 < r.g * spN N rs r.f.toNat r.t.toNat := by
  have hn := whole_nok hw
  have h1 := ok_runs hn r (List.mem_of_getElem? hr)
  obtain ⟨e1, e2, e3, e4, e5⟩ := run_ends hn hr
  have h2 := spN_pos (nOk_in hn) (wgt1 hn) (by omega) e1 ((whole_spn hn).1 hw) e3
  exact Int.mul_pos (by omega) h2
end Go.Proofs.YtenllemaccacgaaGreatDoor
namespace Quo
set_option linter.unusedVariables false
theorem q_ok {a b : Int} (ha : -1000000000 ≤ a) (ha' : a ≤ 1000000000) (hb : 0 < b) (hb' : b ≤ 1000000000) : qO a b = true := by
  have hb0 : b ≠ 0 := by omega
  have h1 := L_pos0 (N := a) hb0
  have h2 := TL_gcd (N := a) hb0
  have h3 : L a b ≤ b := by
    rw [L_pos hb]
    exact Int.ediv_le_self _ (by omega)
  have h4 : (T a b).natAbs ≤ a.natAbs := by
    rw [T_pos hb]; exact tdiv_lo _ _
  unfold qO qv
  rw [decide_eq_true_eq]
  exact ⟨by omega, by omega, by omega, by omega, h2⟩
theorem T_nn {a b : Int} (ha : 0 ≤ a) (hb : 0 < b) : 0 ≤ T a b := by
  rw [T_pos hb]; exact Int.tdiv_nonneg ha (Int.natCast_nonneg _)
theorem T_zero_iff {a b : Int} (hb : b ≠ 0) : T a b = 0 ↔ a = 0 := by
  have h1 := TL_cross (N := a) hb
  have h2 := L_pos0 (N := a) hb
  constructor
  · intro h
    rw [h, Int.zero_mul] at h1
    rcases Int.mul_eq_zero.1 h1.symm with e | e
    · exact e
    · omega
  · intro h
    subst h
    rw [Int.zero_mul] at h1
    rcases Int.mul_eq_zero.1 h1 with e | e
    · exact e
    · exact absurd e hb
/-- quotients over the same number are ordered as their numerators -/
theorem sg_mul {a c : Int} (hc : 0 < c) : sg (a * c) = sg a := by
  have h1 : a * c < 0 ↔ a < 0 := by
    constructor
    · intro h
      apply Classical.byContradiction
      intro h2
      have := Int.mul_nonneg (show 0 ≤ a by omega) (show 0 ≤ c by omega)
      omega
    · intro h
      have := Int.mul_pos (show 0 < -a by omega) hc
      rw [Int.neg_mul] at this
      omega
  have h2 : 0 < a * c ↔ 0 < a := by
    constructor
    · intro h
      apply Classical.byContradiction
      intro h2
      have := Int.mul_nonneg (show 0 ≤ -a by omega) (show 0 ≤ c by omega)
      rw [Int.neg_mul] at this
      omega
    · intro h; exact Int.mul_pos h hc
  unfold sg
  simp only [h1, h2]
theorem sg_TL {a a' D : Int} (hD : 0 < D) : sg (T a D * L a' D - T a' D * L a D) = sg (a - a') := by
  have hD0 : D ≠ 0 := by omega
  have h1 := TL_cross (N := a) hD0
  have h2 := TL_cross (N := a') hD0
  have p1 := L_pos0 (N := a) hD0
  have p2 := L_pos0 (N := a') hD0
  rw [← sg_mul (a := T a D * L a' D - T a' D * L a D) hD, ← sg_mul (a := a - a') (Int.mul_pos p1 p2)]
  congr 1
  grind
theorem both_ok {a b c d : Int} (h1 : qO a b = true) (h2 : qO c d = true) : both (T a b) (L a b) (T c d) (L c d) = true := by
  unfold both
  have h1' : qv (T a b) (L a b) = true := h1
  have h2' : qv (T c d) (L c d) = true := h2
  rw [h1', h2']; rfl
end Quo
