/-
  Adjusted heights count the heights of all trees by weight. No function of the program is named.
-/
import Derived.Test.YtoaomjchaihkaaaDoorEa
namespace Go.Proofs.YtoaomjchaihkaaaDoor
set_option linter.unusedVariables false

/-- a sum over all choices of runs that have a property: the product of their weights times a number -/
noncomputable def sbh : List Rn → (List Rn → Prop) → (List Rn → Int) → Int
  | [], P, F => open Classical in if P [] then F [] else 0
  | r :: rs, P, F => sbh rs P F + r.g * sbh rs (fun T => P (r :: T)) (fun T => F (r :: T))
theorem sbh_congr : ∀ {rs : List Rn} {P Q : List Rn → Prop} {F G : List Rn → Int}, (∀ T, (∀ r ∈ T, r ∈ rs) → (P T ↔ Q T)) → (∀ T, (∀ r ∈ T, r ∈ rs) → P T → F T = G T) → sbh rs P F = sbh rs Q G
  | [], P, Q, F, G, h, hf => by
    have e : P [] ↔ Q [] := h [] (fun r hr => by simp at hr)
    unfold sbh
    by_cases hp : P []
    · rw [if_pos hp, if_pos (e.1 hp), hf [] (fun r hr => by simp at hr) hp]
    · rw [if_neg hp, if_neg (fun hq => hp (e.2 hq))]
  | r :: rs, P, Q, F, G, h, hf => by
    simp only [sbh]
    rw [sbh_congr (fun T hT => h T (fun x hx => List.mem_cons_of_mem _ (hT x hx))) (fun T hT => hf T (fun x hx => List.mem_cons_of_mem _ (hT x hx))), sbh_congr (fun T hT => h (r :: T) (fun x hx => by
      rcases List.mem_cons.1 hx with e | e
      · rw [e]; exact List.mem_cons_self
      · exact List.mem_cons_of_mem _ (hT x e))) (fun T hT => hf (r :: T) (fun x hx => by
      rcases List.mem_cons.1 hx with e | e
      · rw [e]; exact List.mem_cons_self
      · exact List.mem_cons_of_mem _ (hT x e)))]
theorem sbh_none : ∀ {rs : List Rn} {P : List Rn → Prop} {F : List Rn → Int}, (∀ T, (∀ r ∈ T, r ∈ rs) → ¬ P T) → sbh rs P F = 0
  | [], P, F, h => by unfold sbh; rw [if_neg (h [] (fun r hr => by simp at hr))]
  | r :: rs, P, F, h => by
    simp only [sbh]
    rw [sbh_none (fun T hT => h T (fun x hx => List.mem_cons_of_mem _ (hT x hx))), sbh_none (fun T hT => h (r :: T) (fun x hx => by
      rcases List.mem_cons.1 hx with e | e
      · rw [e]; exact List.mem_cons_self
      · exact List.mem_cons_of_mem _ (hT x e)))]
    simp
theorem sbh_empty : ∀ {rs : List Rn} {P : List Rn → Prop} {F : List Rn → Int}, (∀ T, T ≠ [] → ¬ P T) → P [] → sbh rs P F = F []
  | [], P, F, _, h => by unfold sbh; rw [if_pos h]
  | r :: rs, P, F, h, h0 => by
    simp only [sbh]
    rw [sbh_empty h h0, sbh_none (fun T _ => h (r :: T) (by simp))]; simp
theorem sbh_perm {rs rs' : List Rn} (h : rs.Perm rs') : ∀ {P : List Rn → Prop} {F : List Rn → Int}, (∀ T T', T.Perm T' → (P T ↔ P T')) → (∀ T T', T.Perm T' → F T = F T') → sbh rs P F = sbh rs' P F := by
  induction h with
  | nil => intro P F _ _; rfl
  | cons x _ ih => intro P F hP hF; simp only [sbh]; rw [ih hP hF, ih (fun T T' hT => hP _ _ (hT.cons x)) (fun T T' hT => hF _ _ (hT.cons x))]
  | swap x y l =>
    intro P F hP hF
    simp only [sbh]
    rw [sbh_congr (rs := l) (P := fun T => P (x :: y :: T)) (Q := fun T => P (y :: x :: T)) (G := fun T => F (y :: x :: T)) (fun T _ => hP _ _ (List.Perm.swap _ _ _)) (fun T _ _ => hF _ _ (List.Perm.swap _ _ _))]
    rw [Int.mul_add, Int.mul_add, ← Int.mul_assoc, ← Int.mul_assoc, Int.mul_comm x.g y.g]
    omega
  | trans _ _ ih1 ih2 => intro P F hP hF; rw [ih1 hP hF, ih2 hP hF]
/-- numbers at the nodes that have p where it is grounded, and the rises of the runs -/
def HtF (S : Nat → Bool) (p : Nat → Int) (T : List Rn) (x : Nat → Int) : Prop := (∀ i, S i = true → x i = p i) ∧ ∀ r ∈ T, x r.t.toNat - x r.f.toNat = r.s
noncomputable def hv (S : Nat → Bool) (p : Nat → Int) (j : Nat) (T : List Rn) : Int := (Classical.epsilon (HtF S p T)) j
theorem HtF.perm {S : Nat → Bool} {p : Nat → Int} {T T' : List Rn} (h : T.Perm T') : HtF S p T = HtF S p T' := by
  funext x
  exact propext ⟨fun ⟨a, b⟩ => ⟨a, fun r hr => b r (h.mem_iff.2 hr)⟩, fun ⟨a, b⟩ => ⟨a, fun r hr => b r (h.mem_iff.1 hr)⟩⟩
theorem hv_perm {S : Nat → Bool} {p : Nat → Int} {j : Nat} {T T' : List Rn} (h : T.Perm T') : hv S p j T = hv S p j T' := by unfold hv; rw [HtF.perm h]
/-- what a run gives the node that it grounds -/
def stp (p : Nat → Int) (s u : Nat) (r : Rn) : Nat → Int := fun i => if i = u then (if r.t = (u : Int) then p s + r.s else p s - r.s) else p i
theorem HtF.cons {S : Nat → Bool} {p : Nat → Int} {T : List Rn} {r : Rn} {s u : Nat} (h : Joins2 r s u) (hs : S s = true) (hu : S u = false) : HtF S p (r :: T) = HtF (insS S u) (stp p s u r) T := by
  have hsu : s ≠ u := fun e => by rw [e, hu] at hs; cases hs
  funext x
  refine propext ⟨fun ⟨a, b⟩ => ⟨fun i hi => ?_, fun y hy => b y (List.mem_cons_of_mem _ hy)⟩, fun ⟨a, b⟩ => ⟨fun i hi => ?_, fun y hy => ?_⟩⟩
  · unfold stp
    by_cases e : i = u
    · subst e
      rw [if_pos rfl]
      have h1 := b r List.mem_cons_self
      have h2 := a s hs
      rcases h with ⟨e1, e2⟩ | ⟨e1, e2⟩
      · rw [e1, e2, Int.toNat_natCast, Int.toNat_natCast] at h1
        rw [if_pos e2]; omega
      · rw [e1, e2, Int.toNat_natCast, Int.toNat_natCast] at h1
        rw [if_neg (by rw [e2]; omega)]; omega
    · rw [if_neg e]
      exact a i (by unfold insS at hi; simpa [e] using hi)
  · have := a i (by unfold insS; rw [hi]; rfl)
    unfold stp at this
    rw [if_neg (fun e => by rw [e, hu] at hi; cases hi)] at this
    exact this
  · rcases List.mem_cons.1 hy with e | e
    · subst e
      have h1 := a u (by unfold insS; simp)
      have h2 := a s (by unfold insS; rw [hs]; rfl)
      unfold stp at h1 h2
      rw [if_pos rfl] at h1
      rw [if_neg hsu] at h2
      rcases h with ⟨e1, e2⟩ | ⟨e1, e2⟩
      · rw [e1, e2, Int.toNat_natCast, Int.toNat_natCast]
        rw [if_pos e2] at h1; omega
      · rw [e1, e2, Int.toNat_natCast, Int.toNat_natCast]
        rw [if_neg (by rw [e2]; omega)] at h1; omega
    · exact b y e
theorem hv_cons {S : Nat → Bool} {p : Nat → Int} {T : List Rn} {r : Rn} {s u j : Nat} (h : Joins2 r s u) (hs : S s = true) (hu : S u = false) : hv S p j (r :: T) = hv (insS S u) (stp p s u r) j T := by unfold hv; rw [HtF.cons h hs hu]
/-- the numbers beside the matrix with grounded nodes -/
def rhs (S : Nat → Bool) (p : Nat → Int) (rs : List Rn) (i : Nat) : Int := if S i = true then p i else srcs rs i
/-- .. in its column j -/
def aug (S : Nat → Bool) (p : Nat → Int) (rs : List Rn) (j : Nat) : Mx := upc (gnd S rs) j (rhs S p rs)
theorem inc_of {r : Rn} {s u : Nat} (h : Joins2 r s u) (hsu : s ≠ u) {i : Nat} (his : i ≠ s) : inc r i = if i = u then (if r.t = (u : Int) then 1 else -1) else 0 := by
  unfold inc
  rcases h with ⟨h1, h2⟩ | ⟨h1, h2⟩ <;> rw [h1, h2]
  · by_cases e : i = u
    · subst e; rw [if_pos rfl, if_neg (by omega), if_pos rfl, if_pos rfl]; rfl
    · rw [if_neg (by omega), if_neg (by omega), if_neg e]; rfl
  · by_cases e : i = u
    · subst e; rw [if_neg (by omega), if_pos rfl, if_pos rfl, if_neg (by omega)]; rfl
    · rw [if_neg (by omega), if_neg (by omega), if_neg e]; rfl
/-- a row of a grounded node -/
def rowG (p : Int) (u j : Nat) (k : Nat) : Int := if k = j then p else one u k
theorem aug_at {S : Nat → Bool} {p : Nat → Int} {rs : List Rn} {j i : Nat} (h : S i = true) (k : Nat) : aug S p rs j i k = rowG (p i) i j k := by
  unfold aug rowG rhs
  by_cases e : k = j
  · subst e; rw [upd_at, if_pos h, if_pos rfl]
  · rw [upd_ne e, if_neg e]; unfold gnd; rw [if_pos h]
theorem aug_no {S : Nat → Bool} {p : Nat → Int} {rs : List Rn} {j i : Nat} (h : S i = false) (k : Nat) : aug S p rs j i k = if k = j then srcs rs i else lap rs i k := by
  unfold aug rhs
  by_cases e : k = j
  · subst e; rw [upd_at, h, if_pos rfl]; rfl
  · rw [upd_ne e, if_neg e]; unfold gnd; rw [h]; rfl
theorem aug_add {N : Nat} {S : Nat → Bool} {p : Nat → Int} {r : Rn} {s u j : Nat} (rs : List Rn) (h : Joins2 r s u) (hs : S s = true) (hu : S u = false) (hsN : s < N) (huN : u < N) :
    det N (aug S p (r :: rs) j) = det N (aug S p rs j) + r.g * det N (aug (insS S u) (stp p s u r) rs j) := by
  have hsu : s ≠ u := fun e => by rw [e, hu] at hs; cases hs
  obtain ⟨q, hq⟩ : ∃ q, stp p s u r u = q := ⟨_, rfl⟩
  have hqd : q - p s = r.s * (if r.t = (u : Int) then 1 else -1) := by
    rw [← hq]; unfold stp; rw [if_pos rfl]
    split <;> omega
  have h1 : det N (aug S p (r :: rs) j) = det N (upr (aug S p rs j) u (fun k => 1 * aug S p rs j u k + r.g * (1 * rowG q u j k + (-1) * rowG (p s) s j k))) := by
    refine det_congr (fun i k hi hk => ?_)
    by_cases e : i = u
    · subst e
      rw [upr_at, aug_no hu, aug_no hu]
      unfold rowG
      by_cases c : k = j
      · subst c
        rw [if_pos rfl, if_pos rfl, if_pos rfl, if_pos rfl]
        show r.g * r.s * inc r i + srcs rs i = _
        rw [inc_of h hsu (fun e => hsu e.symm), if_pos rfl]
        have : 1 * q + -1 * p s = r.s * (if r.t = (i : Int) then 1 else -1) := by omega
        rw [this, Int.mul_assoc]; omega
      · rw [if_neg c, if_neg c, if_neg c, if_neg c]
        show r.g * (inc r i * inc r k) + lap rs i k = _
        rw [inc_join h hsu i k (fun e => hsu e.symm), if_pos rfl]
        have : 1 * one i k + -1 * one s k = one i k - one s k := by omega
        rw [this]; omega
    · rw [upr_ne e]
      by_cases hS : S i = true
      · rw [aug_at hS, aug_at hS]
      · have hS : S i = false := by simpa using hS
        rw [aug_no hS, aug_no hS]
        have his : i ≠ s := fun e2 => by rw [e2, hs] at hS; cases hS
        by_cases c : k = j
        · rw [if_pos c, if_pos c]
          show r.g * r.s * inc r i + srcs rs i = _
          rw [inc_of h hsu his, if_neg e]; omega
        · rw [if_neg c, if_neg c]
          show r.g * (inc r i * inc r k) + lap rs i k = _
          rw [inc_join h hsu i k his, if_neg e]; omega
  have h2 : det N (upr (aug S p rs j) u (fun k => aug S p rs j u k)) = det N (aug S p rs j) := det_congr (fun i k hi hk => by
    by_cases e : i = u
    · subst e; rw [upr_at]
    · rw [upr_ne e])
  have h3 : det N (upr (aug S p rs j) u (fun k => rowG (p s) s j k)) = 0 := det_rows _ (p := u) (q := s) huN hsN (fun e => hsu e.symm) (fun k hk => by
    rw [upr_at, upr_ne hsu, aug_at hs])
  have h4 : det N (upr (aug S p rs j) u (fun k => rowG q u j k)) = det N (aug (insS S u) (stp p s u r) rs j) := det_congr (fun i k hi hk => by
    by_cases e : i = u
    · subst e; rw [upr_at, aug_at (by unfold insS; simp), hq]
    · rw [upr_ne e]
      have hI : insS S u i = S i := by unfold insS; simp [e]
      by_cases hS : S i = true
      · rw [aug_at hS, aug_at (by rw [hI]; exact hS)]
        unfold stp; rw [if_neg e]
      · have hS : S i = false := by simpa using hS
        rw [aug_no hS, aug_no (by rw [hI]; exact hS)])
  rw [h1, det_upr_lin _ (fun k => aug S p rs j u k) (fun k => 1 * rowG q u j k + (-1) * rowG (p s) s j k) 1 r.g huN, det_upr_lin _ (fun k => rowG q u j k) (fun k => rowG (p s) s j k) 1 (-1) huN, h2, h3, h4]
  rw [Int.one_mul, Int.one_mul, Int.mul_zero, Int.add_zero]
theorem aug_zero {N : Nat} {S : Nat → Bool} {p : Nat → Int} {rs : List Rn} {u j : Nat} (hin : InN N rs) (huN : u < N) (hu : S u = false) (hno : ∀ r ∈ rs, S r.f.toNat = S r.t.toNat) : det N (aug S p rs j) = 0 := by
  have hk : ∀ k, k < N → smn N (fun i => aug S p rs j i k * (if S i = true then 0 else 1)) = 0 := fun k hk => by
    have e1 : ∀ i, aug S p rs j i k * (if S i = true then 0 else 1) = lsm rs (fun r => (if k = j then r.g * r.s else r.g * inc r k) * (inc r i * (if S i = true then 0 else 1))) := fun i => by
      by_cases hS : S i = true
      · rw [if_pos hS, Int.mul_zero]
        exact (lsm_zero (rs := rs) (F := fun r => (if k = j then r.g * r.s else r.g * inc r k) * (inc r i * 0)) (fun r _ => by rw [Int.mul_zero, Int.mul_zero])).symm
      · have hS' : S i = false := by simpa using hS
        rw [if_neg hS, aug_no hS', Int.mul_one]
        by_cases c : k = j
        · rw [if_pos c]
          unfold srcs
          exact lsm_congr (fun r _ => by rw [if_pos c, Int.mul_one])
        · rw [if_neg c]
          unfold lap
          exact lsm_congr (fun r _ => by rw [if_neg c, Int.mul_one, Int.mul_comm (inc r i), Int.mul_assoc])
    rw [sm_congr (fun i _ => e1 i), smn_lsm]
    refine lsm_zero (fun r hr => ?_)
    rw [sm_mul, inc_sum (hin r hr) (fun i => if S i = true then 0 else 1), hno r hr, Int.sub_self, Int.mul_zero]
  rw [← det_trn]
  have h1 := cramer_back (trn (aug S p rs j)) huN (fun i => if S i = true then 0 else 1)
  rw [det_congr (b := upc (trn (aug S p rs j)) u (fun _ => 0)) (fun i k hi hk' => by
    by_cases e : k = u
    · subst e; rw [upd_at, upd_at]; exact hk i hi
    · rw [upd_ne e, upd_ne e]), (det_is N).zero _ huN, if_neg (by rw [hu]; simp), Int.one_mul] at h1
  exact h1.symm
theorem aug_full {N : Nat} {S : Nat → Bool} {p : Nat → Int} {rs : List Rn} {j : Nat} (hj : j < N) (h : ∀ i, i < N → S i = true) : det N (aug S p rs j) = p j := by
  have h1 := cramer_back (n := N) one hj p
  rw [det_one, Int.mul_one] at h1
  rw [← h1]
  refine det_congr (fun i k hi hk => ?_)
  rw [aug_at (h i hi)]
  unfold rowG
  by_cases e : k = j
  · subst e
    rw [if_pos rfl, upd_at, sm_one (k := i) hi (fun t _ hne => by unfold one; rw [if_neg (Ne.symm hne)]; simp)]
    unfold one; simp
  · rw [if_neg e, upd_ne e]
theorem aug_perm {N : Nat} {S : Nat → Bool} {p : Nat → Int} {j : Nat} {rs rs' : List Rn} (h : rs.Perm rs') : det N (aug S p rs j) = det N (aug S p rs' j) :=
  det_congr (fun i k _ _ => by
    by_cases hS : S i = true
    · rw [aug_at hS, aug_at hS]
    · have hS : S i = false := by simpa using hS
      rw [aug_no hS, aug_no hS, lap_perm h]
      unfold srcs
      rw [lsm_perm h])
theorem hv_full {N : Nat} {S : Nat → Bool} {p : Nat → Int} {j : Nat} (hj : j < N) (h : ∀ i, i < N → S i = true) : hv S p j [] = p j :=
  (Classical.epsilon_spec (p := HtF S p []) ⟨p, fun _ _ => rfl, fun r hr => by simp at hr⟩).1 j (h j hj)
theorem forestH {N : Nat} : ∀ (n : Nat) (rs : List Rn) (S : Nat → Bool) (p : Nat → Int) (j : Nat), rs.length = n → j < N → InN N rs → det N (aug S p rs j) = sbh rs (Frs N S) (hv S p j) := by
  intro n
  induction n with
  | zero =>
    intro rs S p j hl hj hin
    by_cases hf : ∀ i, i < N → S i = true
    · rw [aug_full hj hf, sbh_empty (fun T hT h => hT (List.eq_nil_of_length_eq_zero (by have := h.1; rw [cnt_full hf] at this; omega))) ⟨by rw [cnt_full hf]; simp, fun φ hφ h0 i hi => h0 i hi (hf i hi)⟩, hv_full hj hf]
    · obtain ⟨u, hu⟩ : ∃ u, ¬ (u < N → S u = true) := Classical.not_forall.1 hf
      have huN : u < N := Classical.byContradiction (fun h => hu (fun h' => absurd h' h))
      have hu0 : S u = false := by cases h : S u <;> simp_all
      have he : rs = [] := List.eq_nil_of_length_eq_zero hl
      subst he
      rw [aug_zero hin huN hu0 (fun r hr => by simp at hr)]
      refine (sbh_none (fun T hT h => ?_)).symm
      exact h.2 (fun x => ∃ k : Nat, x = k ∧ S k = false) (fun r hr => absurd (hT r hr) (by simp)) (fun s _ hs ⟨k, e, hk⟩ => by have : s = k := (by omega); rw [← this, hs] at hk; cases hk) u huN ⟨u, rfl, hu0⟩
  | succ n ih =>
    intro rs S p j hl hj hin
    by_cases hf : ∀ i, i < N → S i = true
    · rw [aug_full hj hf, sbh_empty (fun T hT h => hT (List.eq_nil_of_length_eq_zero (by have := h.1; rw [cnt_full hf] at this; omega))) ⟨by rw [cnt_full hf]; simp, fun φ hφ h0 i hi => h0 i hi (hf i hi)⟩, hv_full hj hf]
    · obtain ⟨u, hu⟩ : ∃ u, ¬ (u < N → S u = true) := Classical.not_forall.1 hf
      have huN : u < N := Classical.byContradiction (fun h => hu (fun h' => absurd h' h))
      have hu0 : S u = false := by cases h : S u <;> simp_all
      by_cases hjn : ∀ r ∈ rs, S r.f.toNat = S r.t.toNat
      · rw [aug_zero hin huN hu0 hjn]
        refine (sbh_none (fun T hT h => ?_)).symm
        refine h.2 (fun x => 0 ≤ x ∧ S x.toNat = false) (fun r hr => ?_) (fun s _ hs hk => by have := hk.2; rw [Int.toNat_natCast, hs] at this; cases this) u huN ⟨by omega, by rw [Int.toNat_natCast]; exact hu0⟩
        obtain ⟨h1, _, h3, _⟩ := hin r (hT r hr)
        rw [hjn r (hT r hr)]
        exact ⟨fun h => ⟨h3, h.2⟩, fun h => ⟨h1, h.2⟩⟩
      · obtain ⟨r, hr⟩ : ∃ r, ¬ (r ∈ rs → S r.f.toNat = S r.t.toNat) := Classical.not_forall.1 hjn
        have hrm : r ∈ rs := Classical.byContradiction (fun h => hr (fun h' => absurd h' h))
        have hne : S r.f.toNat ≠ S r.t.toNat := fun h => hr (fun _ => h)
        obtain ⟨r1, r2, r3, r4⟩ := hin r hrm
        obtain ⟨s, v, hJ, hs, hv', hsN, hvN⟩ : ∃ s v, Joins2 r s v ∧ S s = true ∧ S v = false ∧ s < N ∧ v < N := by
          cases h1 : S r.f.toNat <;> cases h2 : S r.t.toNat
          · rw [h1, h2] at hne; exact absurd rfl hne
          · exact ⟨r.t.toNat, r.f.toNat, .inr ⟨by omega, by omega⟩, h2, h1, by omega, by omega⟩
          · exact ⟨r.f.toNat, r.t.toNat, .inl ⟨by omega, by omega⟩, h1, h2, by omega, by omega⟩
          · rw [h1, h2] at hne; exact absurd rfl hne
        obtain ⟨l1, l2, rfl⟩ := List.append_of_mem hrm
        have hp : (l1 ++ r :: l2).Perm (r :: (l1 ++ l2)) := List.perm_middle
        have hin' : InN N (l1 ++ l2) := fun x hx => hin x (by
          rcases List.mem_append.1 hx with h | h
          · exact List.mem_append_left _ h
          · exact List.mem_append_right _ (List.mem_cons_of_mem _ h))
        have hl' : (l1 ++ l2).length = n := by simp at hl ⊢; omega
        rw [aug_perm hp, aug_add _ hJ hs hv' hsN hvN, ih _ _ _ _ hl' hj hin', ih _ _ _ _ hl' hj hin', sbh_perm hp Frs.perm (fun T T' h => hv_perm h)]
        simp only [sbh]
        rw [sbh_congr (rs := l1 ++ l2) (P := fun T => Frs N S (r :: T)) (F := fun T => hv S p j (r :: T)) (fun T _ => Frs.cons T hJ hs hv' hsN hvN) (fun T _ _ => hv_cons hJ hs hv')]
theorem nT_aug (n : Nat) (rs : List Rn) (j : Nat) : nT n rs j = det (n + 1) (aug S0 (fun _ => 0) rs (j + 1)) := by
  show _ = smn (n + 1) (fun k => sgj k * aug S0 (fun _ => 0) rs (j + 1) 0 k * det n (mnr (aug S0 (fun _ => 0) rs (j + 1)) k))
  have h0 : S0 0 = true := rfl
  rw [sm_one (k := 0) (by omega) (fun k _ hne => by rw [aug_at h0]; unfold rowG one; split <;> simp [Ne.symm hne])]
  have e : aug S0 (fun _ => 0) rs (j + 1) 0 0 = 1 := by rw [aug_at h0]; unfold rowG one; simp
  rw [e, sg_zero, Int.one_mul, Int.one_mul]
  refine det_congr (fun i k _ _ => ?_)
  show _ = aug S0 (fun _ => 0) rs (j + 1) (i + 1) (skip 0 k)
  have : skip 0 k = k + 1 := by unfold skip; simp
  rw [this, aug_no (by unfold S0; simp)]
  by_cases c : k = j
  · subst c; rw [upd_at, if_pos rfl]
  · rw [upd_ne c, if_neg (by omega)]; rfl
/-- ADJUSTED HEIGHTS: the sum over all trees of the product of the weights times the height -/
theorem heights_trees {n : Nat} {rs : List Rn} (h : InN (n + 1) rs) {j : Nat} (hj : j < n) : nT n rs j = sbh rs (Frs (n + 1) S0) (hv S0 (fun _ => 0) (j + 1)) := by rw [nT_aug]; exact forestH _ rs S0 _ _ rfl (by omega) h
end Go.Proofs.YtoaomjchaihkaaaDoor
