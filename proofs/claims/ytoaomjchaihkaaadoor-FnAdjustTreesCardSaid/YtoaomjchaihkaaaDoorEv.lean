/-
  A sum over all sets of runs, told by the bits of a number, counts the heights of all trees by weight. No function of the program is named.
-/
import Derived.Test.YtoaomjchaihkaaaDoorEb
namespace Go.Proofs.YtoaomjchaihkaaaDoor
set_option linter.unusedVariables false

/-- the runs that a number's bits pick, the product of their weights, and their indexes -/
def pkB : List Rn → Nat → List Rn
  | [], _ => []
  | r :: rs, s => if s % 2 = 1 then r :: pkB rs (s / 2) else pkB rs (s / 2)
def pwB : List Rn → Nat → Int
  | [], _ => 1
  | r :: rs, s => if s % 2 = 1 then r.g * pwB rs (s / 2) else pwB rs (s / 2)
def idB : List Rn → Nat → Nat → List Int
  | [], _, _ => []
  | _ :: rs, b, s => if s % 2 = 1 then (b : Int) :: idB rs (b + 1) (s / 2) else idB rs (b + 1) (s / 2)
theorem sm_double (k : Nat) (f : Nat → Int) : smn (2 * k) f = smn k (fun s => f (2 * s)) + smn k (fun s => f (2 * s + 1)) := by
  induction k with
  | zero => rfl
  | succ k ih =>
    show smn (2 * k + 1 + 1) f = _
    simp only [smn]
    rw [ih]; omega
theorem pkB_even (r : Rn) (rs : List Rn) (s : Nat) : pkB (r :: rs) (2 * s) = pkB rs s := by
  have a1 : (2 * s) % 2 = 0 := by omega
  have a2 : (2 * s) / 2 = s := by omega
  simp only [pkB, a1, a2, Nat.zero_ne_one, if_false]
theorem pkB_odd (r : Rn) (rs : List Rn) (s : Nat) : pkB (r :: rs) (2 * s + 1) = r :: pkB rs s := by
  have a1 : (2 * s + 1) % 2 = 1 := by omega
  have a2 : (2 * s + 1) / 2 = s := by omega
  simp only [pkB, a1, a2, if_true]
theorem pwB_even (r : Rn) (rs : List Rn) (s : Nat) : pwB (r :: rs) (2 * s) = pwB rs s := by
  have a1 : (2 * s) % 2 = 0 := by omega
  have a2 : (2 * s) / 2 = s := by omega
  simp only [pwB, a1, a2, Nat.zero_ne_one, if_false]
theorem pwB_odd (r : Rn) (rs : List Rn) (s : Nat) : pwB (r :: rs) (2 * s + 1) = r.g * pwB rs s := by
  have a1 : (2 * s + 1) % 2 = 1 := by omega
  have a2 : (2 * s + 1) / 2 = s := by omega
  simp only [pwB, a1, a2, if_true]
theorem sbh_bits : ∀ (rs : List Rn) (P : List Rn → Prop) (F : List Rn → Int), sbh rs P F = smn (2 ^ rs.length) (fun s => open Classical in if P (pkB rs s) then pwB rs s * F (pkB rs s) else 0)
  | [], P, F => by
    show _ = 0 + _
    by_cases hp : P []
    · simp [sbh, pkB, pwB, hp]
    · simp [sbh, pkB, hp]
  | r :: rs, P, F => by
    have e : 2 ^ (r :: rs).length = 2 * 2 ^ rs.length := by rw [List.length_cons, Nat.pow_succ, Nat.mul_comm]
    rw [e, sm_double]
    simp only [sbh]
    rw [sbh_bits rs P F, sbh_bits rs (fun T => P (r :: T)) (fun T => F (r :: T)), ← sm_mul]
    congr 1
    · refine sm_congr (fun s _ => ?_)
      rw [pkB_even, pwB_even]
    · refine sm_congr (fun s _ => ?_)
      rw [pkB_odd, pwB_odd]
      split
      · rw [Int.mul_assoc]
      · rw [Int.mul_zero]
theorem half_pow (s n : Nat) : s / 2 / 2 ^ n = s / 2 ^ (n + 1) := by rw [Nat.div_div_eq_div_mul, Nat.pow_succ, Nat.mul_comm]
theorem idB_snoc (r : Rn) : ∀ (us : List Rn) (b s : Nat), idB (us ++ [r]) b s = idB us b s ++ (if s / 2 ^ us.length % 2 = 1 then [((b + us.length : Nat) : Int)] else [])
  | [], b, s => by simp [idB]
  | u :: us, b, s => by
    simp only [List.cons_append, idB, List.length_cons]
    rw [idB_snoc r us (b + 1) (s / 2), half_pow]
    have e : b + 1 + us.length = b + (us.length + 1) := by omega
    rw [e]
    split <;> rfl
theorem pwB_snoc (r : Rn) : ∀ (us : List Rn) (s : Nat), pwB (us ++ [r]) s = pwB us s * (if s / 2 ^ us.length % 2 = 1 then r.g else 1)
  | [], s => by simp [pwB]
  | u :: us, s => by
    simp only [List.cons_append, pwB, List.length_cons]
    rw [pwB_snoc r us (s / 2), half_pow]
    split
    · rw [Int.mul_assoc]
    · rfl
theorem idB_take {rs : List Rn} {j : Nat} {r : Rn} (h : rs[j]? = some r) (s : Nat) : idB (rs.take (j + 1)) 0 s = idB (rs.take j) 0 s ++ (if s / 2 ^ j % 2 = 1 then [(j : Int)] else []) := by
  have hj : j < rs.length := (List.getElem?_eq_some_iff.1 h).1
  have e : (rs.take j).length = j := by rw [List.length_take]; omega
  rw [List.take_add_one, h]
  show idB (rs.take j ++ [r]) 0 s = _
  rw [idB_snoc, e, Nat.zero_add]
theorem pwB_take {rs : List Rn} {j : Nat} {r : Rn} (h : rs[j]? = some r) (s : Nat) : pwB (rs.take (j + 1)) s = pwB (rs.take j) s * (if s / 2 ^ j % 2 = 1 then r.g else 1) := by
  have hj : j < rs.length := (List.getElem?_eq_some_iff.1 h).1
  have e : (rs.take j).length = j := by rw [List.length_take]; omega
  rw [List.take_add_one, h]
  show pwB (rs.take j ++ [r]) s = _
  rw [pwB_snoc, e]
theorem idB_sbl : ∀ (rs : List Rn) (b s : Nat), idB rs b s ∈ sbl rs b
  | [], _, _ => by simp [idB, sbl]
  | r :: rs, b, s => by
    simp only [idB, sbl]
    split
    · exact List.mem_append_right _ (List.mem_map.2 ⟨_, idB_sbl rs (b + 1) (s / 2), rfl⟩)
    · exact List.mem_append_left _ (idB_sbl rs (b + 1) (s / 2))
theorem idB_asc (rs : List Rn) (s : Nat) : Asc rs.length (idB rs 0 s) := by
  obtain ⟨h1, h2⟩ := mem_sbl.1 (idB_sbl rs 0 s)
  exact ⟨fun z hz => by have := h1 z hz; omega, h2⟩
theorem idB_len : ∀ (rs : List Rn) (b s : Nat), (idB rs b s).length ≤ rs.length
  | [], _, _ => Nat.le_refl _
  | r :: rs, b, s => by
    simp only [idB]
    have := idB_len rs (b + 1) (s / 2)
    split <;> simp only [List.length_cons] <;> omega
theorem idB_sub {all : List Rn} : ∀ (rs : List Rn) (b s : Nat), (∀ i : Nat, rs[i]? = all[b + i]?) → sub all (idB rs b s) = pkB rs s
  | [], _, _, _ => rfl
  | r :: rs, b, s, ha => by
    have hr : runOf all b = r := by
      have := ha 0
      simp only [List.getElem?_cons_zero, Nat.add_zero] at this
      unfold runOf
      rw [Int.toNat_natCast, ← this]; rfl
    have ha' : ∀ i : Nat, rs[i]? = all[b + 1 + i]? := fun i => by
      have := ha (i + 1)
      rw [List.getElem?_cons_succ] at this
      rw [this]; congr 1; omega
    simp only [idB, pkB]
    split
    · show runOf all b :: sub all (idB rs (b + 1) (s / 2)) = _
      rw [hr, idB_sub rs (b + 1) (s / 2) ha']
    · exact idB_sub rs (b + 1) (s / 2) ha'
theorem idB_pk (rs : List Rn) (s : Nat) : sub rs (idB rs 0 s) = pkB rs s := idB_sub rs 0 s (fun i => by rw [Nat.zero_add])
theorem pwB_low : ∀ (rs : List Rn) (s : Nat), (∀ r ∈ rs, 1 ≤ r.g ∧ r.g ≤ 9) → 1 ≤ pwB rs s ∧ pwB rs s ≤ 9 ^ rs.length
  | [], _, _ => by simp [pwB]
  | r :: rs, s, h => by
    obtain ⟨i1, i2⟩ := pwB_low rs (s / 2) (fun x hx => h x (List.mem_cons_of_mem _ hx))
    obtain ⟨g1, g2⟩ := h r (by simp)
    have e : (9 : Int) ^ (r :: rs).length = 9 * 9 ^ rs.length := by rw [List.length_cons, Int.pow_succ, Int.mul_comm]
    simp only [pwB]
    rw [e]
    split
    · have h1 := Int.mul_le_mul g1 i1 (by omega) (by omega)
      have h2 := Int.mul_le_mul g2 i2 (by omega) (by omega)
      omega
    · omega
theorem pow9_le {m : Nat} (h : m ≤ 9) : (9 : Int) ^ m ≤ 387420489 := by
  match m, h with
  | 0, _ => decide
  | 1, _ => decide
  | 2, _ => decide
  | 3, _ => decide
  | 4, _ => decide
  | 5, _ => decide
  | 6, _ => decide
  | 7, _ => decide
  | 8, _ => decide
  | 9, _ => decide
theorem idB_tree {N : Nat} {rs : List Rn} (hn : nOk N rs = true) (s : Nat) : IsTree N rs (idB rs 0 s) ↔ Frs N S0 (pkB rs s) := by
  have hN := (nOk_true hn).1
  have h12 := (nOk_true hn).2.2.1
  have hA := idB_asc rs s
  have hL := idB_len rs 0 s
  have hok := hA.sub_ok hn (by omega)
  obtain ⟨M, rfl⟩ : ∃ M, N = M + 1 := ⟨N - 1, by omega⟩
  rw [← idB_pk]
  unfold Frs
  rw [cnt_S0, sub_len]
  constructor
  · intro h
    have hlen := h.len
    exact ⟨by omega, (whole_spn hok).1 h.whole⟩
  · rintro ⟨hlen, hs⟩
    exact ⟨hn, by omega, hA, (whole_spn hok).2 hs⟩
/-- the heights that a tree gives are those that its runs have -/
theorem hv_ht {N : Nat} {us : List Rn} {L : List Int} (hw : ∀ i : Nat, i < N → Same us 0 i) (h : IsHt N us L) {i : Nat} (hi : i < N) : hv S0 (fun _ => 0) i us = htAt L i := by
  have hx : HtF S0 (fun _ => 0) us (fun i => htAt L (i : Nat)) := by
    refine ⟨fun i hi => ?_, fun r hr => ?_⟩
    · have e : i = 0 := by simpa [S0] using hi
      subst e; exact h.zero
    · have := h.fit r hr
      unfold htAt at this ⊢
      simp only [Int.toNat_natCast]; exact this
  have he := Classical.epsilon_spec (p := HtF S0 (fun _ => 0) us) ⟨_, hx⟩
  have h0 : Classical.epsilon (HtF S0 (fun _ => 0) us) 0 = 0 := he.1 0 rfl
  have := (hw i hi (fun x => Classical.epsilon (HtF S0 (fun _ => 0) us) x.toNat = htAt L x) (fun r hr => by
    have a := h.fit r hr
    have b := he.2 r hr
    constructor <;> intro _ <;> omega)).1 (by rw [h.zero]; exact h0)
  rw [Int.toNat_natCast] at this
  exact this
/-- the sum over the first sets: the product of the weights times the height, of those that are trees -/
noncomputable def termB (N : Nat) (rs : List Rn) (i s : Nat) : Int := open Classical in if IsTree N rs (idB rs 0 s) then pwB rs s * hv S0 (fun _ => 0) i (pkB rs s) else 0
noncomputable def sumB (N : Nat) (rs : List Rn) (i s : Nat) : Int := smn s (termB N rs i)
theorem termB_no {N : Nat} {rs : List Rn} {s : Nat} (i : Nat) (h : ¬ IsTree N rs (idB rs 0 s)) : termB N rs i s = 0 := by unfold termB; rw [if_neg h]
theorem termB_yes {N : Nat} {rs : List Rn} {L : List Int} {i s : Nat} (h : IsTree N rs (idB rs 0 s)) (hL : IsHt N (sub rs (idB rs 0 s)) L) (hi : i < N) : termB N rs i s = pwB rs s * htAt L i := by
  unfold termB
  rw [if_pos h, ← idB_pk, hv_ht (fun j hj => whole_same h.whole hj) hL hi]
theorem sumB_all {n : Nat} {rs : List Rn} (hn : nOk ((n + 1 : Nat) : Int) rs = true) {i : Nat} (hi : i < n + 1) : sumB (n + 1) rs i (2 ^ rs.length) = hT n rs i := by
  have e : sumB (n + 1) rs i (2 ^ rs.length) = sbh rs (Frs (n + 1) S0) (hv S0 (fun _ => 0) i) := by
    rw [sbh_bits]
    refine sm_congr (fun s _ => ?_)
    unfold termB
    by_cases h : IsTree (n + 1 : Nat) rs (idB rs 0 s)
    · rw [if_pos h, if_pos ((idB_tree hn s).1 h)]
    · rw [if_neg h, if_neg (fun h' => h ((idB_tree hn s).2 h'))]
  rw [e]
  match i, hi with
  | j + 1, hj => exact (heights_trees (nOk_in hn) (by omega)).symm
  | 0, _ =>
    show _ = 0
    rw [sbh_bits]
    refine sm_zero (fun s _ => ?_)
    split
    · next h =>
      have ht := (idB_tree hn s).2 h
      have hok := ht.ends
      obtain ⟨P, hP0, hP⟩ := pot_zero hok ht.rk
      rw [← idB_pk]
      have hx : HtF S0 (fun _ => 0) (sub rs (idB rs 0 s)) (fun i => P (i : Nat)) := by
        refine ⟨fun i hi => ?_, fun r hr => ?_⟩
        · have e : i = 0 := by simpa [S0] using hi
          subst e; exact hP0
        · have := hok r hr
          have e1 : ((r.t.toNat : Nat) : Int) = r.t := by omega
          have e2 : ((r.f.toNat : Nat) : Int) = r.f := by omega
          show P ((r.t.toNat : Nat) : Int) - P ((r.f.toNat : Nat) : Int) = r.s
          rw [e1, e2]; exact hP r hr
      have he := (Classical.epsilon_spec (p := HtF S0 (fun _ => 0) (sub rs (idB rs 0 s))) ⟨_, hx⟩).1 0 rfl
      show pwB rs s * hv S0 (fun _ => 0) 0 _ = 0
      unfold hv
      rw [he, Int.mul_zero]
    · rfl
end Go.Proofs.YtoaomjchaihkaaaDoor
