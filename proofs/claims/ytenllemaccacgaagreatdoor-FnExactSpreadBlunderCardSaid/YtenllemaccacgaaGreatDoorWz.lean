/-
  Forests of two trees, one with each of two nodes: the numerators of spreads. No function of the program is named.
  The determinant of the matrix of a net without the rows and columns of two nodes is the weight of the forests that part them. No function of the program is named.
  Sums over all runs left out, bounds of forests' weights, and the trees of a net as a determinant. No function of the program is named.
  Numbers at the nodes that balance but at two nodes differ there by the spread; what a moved rise moves. No function of the program is named.
  Spreads over a run without which the net falls apart. No function of the program is named.
  Two runs of double weight behind one another, with a new node between, in place of a run: the same spread. No function of the program is named.
-/
import Derived.Test.YtenllemaccacgaaGreatDoorEb
import Derived.Test.YtenllemaccacgaaGreatDoorEa
namespace Go.Proofs.YtenllemaccacgaaGreatDoor
set_option linter.unusedVariables false

/-- one node, or two, are grounded -/
def S1 (i : Nat) : Nat → Bool := fun k => k == i
def S2 (i j : Nat) : Nat → Bool := insS (S1 i) j
theorem S1_zero : S1 0 = S0 := rfl
theorem S1_self (i : Nat) : S1 i i = true := by unfold S1; simp
theorem S1_ne {i j : Nat} (h : i ≠ j) : S1 i j = false := by unfold S1; simp; omega
theorem S2_sym (i j : Nat) : S2 i j = S2 j i := by
  funext k; unfold S2 insS S1; exact Bool.or_comm _ _
theorem S2_true {i j k : Nat} : S2 i j k = true ↔ k = i ∨ k = j := by unfold S2 insS S1; simp
theorem S2_left (i j : Nat) : S2 i j i = true := S2_true.2 (.inl rfl)
theorem S2_right (i j : Nat) : S2 i j j = true := S2_true.2 (.inr rfl)
theorem cnt_S1 {i : Nat} : ∀ {n : Nat}, cnt (S1 i) n = if i < n then 1 else 0
  | 0 => by simp [cnt]
  | n + 1 => by
    simp only [cnt]
    rw [cnt_S1]
    unfold S1
    by_cases e : n = i
    · subst e; simp
    · have : (n == i) = false := by simpa using e
      rw [this]
      by_cases h : i < n
      · rw [if_pos h, if_pos (show i < n + 1 by omega)]; simp
      · rw [if_neg h, if_neg (show ¬ i < n + 1 by omega)]; simp
theorem cnt_S2 {i j N : Nat} (hij : i ≠ j) (hi : i < N) (hj : j < N) : cnt (S2 i j) N = 2 := by
  unfold S2
  rw [cnt_ins (S1_ne hij), cnt_S1, if_pos hi, if_pos hj]
theorem Spn.mono {N : Nat} {S S' : Nat → Bool} {T T' : List Rn} (hS : ∀ s, S s = true → S' s = true) (hT : ∀ r ∈ T, r ∈ T') (h : Spn N S T) : Spn N S' T' :=
  fun φ hφ h0 => h φ (fun r hr => hφ r (hT r hr)) (fun s hs hS1 => h0 s hs (hS s hS1))
/-- where one node is grounded, any other may be -/
theorem Spn.root {N i j : Nat} {T : List Rn} (hi : i < N) (hj : j < N) (h : Spn N (S1 i) T) : Spn N (S1 j) T := fun φ hφ h0 k hk hφk => by
  have hj0 := h0 j hj (S1_self j)
  by_cases hfi : φ i
  · exact h (fun x => ¬ φ x) (fun r hr => not_congr (hφ r hr)) (fun s _ hs => by
      have : s = i := by unfold S1 at hs; simpa using hs
      subst this; exact fun h => h hfi) j hj hj0
  · exact h φ hφ (fun s _ hs => by
      have : s = i := by unfold S1 at hs; simpa using hs
      subst this; exact hfi) k hk hφk
theorem Frs.root {N i j : Nat} {T : List Rn} (hi : i < N) (hj : j < N) : Frs N (S1 i) T ↔ Frs N (S1 j) T := by
  unfold Frs
  rw [cnt_S1, cnt_S1, if_pos hi, if_pos hj]
  exact and_congr Iff.rfl ⟨Spn.root hi hj, Spn.root hj hi⟩
theorem sbw_nn : ∀ {rs : List Rn} {P : List Rn → Prop}, (∀ r ∈ rs, 1 ≤ r.g) → 0 ≤ sbw rs P
  | [], P, _ => by unfold sbw; split <;> omega
  | r :: rs, P, h => by
    simp only [sbw]
    have a := sbw_nn (rs := rs) (P := P) (fun x hx => h x (List.mem_cons_of_mem _ hx))
    have b := sbw_nn (rs := rs) (P := fun T => P (r :: T)) (fun x hx => h x (List.mem_cons_of_mem _ hx))
    have c := Int.mul_nonneg (show 0 ≤ r.g by have := h r (by simp); omega) b
    omega
theorem sbw_le : ∀ {rs : List Rn} {P Q R : List Rn → Prop}, (∀ r ∈ rs, 1 ≤ r.g) → (∀ T, (∀ r ∈ T, r ∈ rs) → P T → Q T ∨ R T) → sbw rs P ≤ sbw rs Q + sbw rs R
  | [], P, Q, R, _, h => by
    unfold sbw
    have := h [] (fun r hr => by simp at hr)
    by_cases p : P []
    · rcases this p with q | q
      · rw [if_pos p, if_pos q]; split <;> omega
      · rw [if_pos p, if_pos q]; split <;> omega
    · rw [if_neg p]; split <;> split <;> omega
  | r :: rs, P, Q, R, hg, h => by
    simp only [sbw]
    have hg' := fun x hx => hg x (List.mem_cons_of_mem r hx)
    have a := sbw_le (rs := rs) (P := P) (Q := Q) (R := R) hg' (fun T hT => h T (fun x hx => List.mem_cons_of_mem _ (hT x hx)))
    have b := sbw_le (rs := rs) (P := fun T => P (r :: T)) (Q := fun T => Q (r :: T)) (R := fun T => R (r :: T)) hg' (fun T hT => h (r :: T) (fun x hx => by
      rcases List.mem_cons.1 hx with e | e
      · rw [e]; exact List.mem_cons_self
      · exact List.mem_cons_of_mem _ (hT x e)))
    have c := Int.mul_le_mul_of_nonneg_left b (show 0 ≤ r.g by have := hg r (by simp); omega)
    rw [Int.mul_add] at c
    omega
/-- what spans holds a forest -/
theorem sbw_spn {N : Nat} : ∀ (n : Nat) (rs : List Rn) (S : Nat → Bool), rs.length = n → InN N rs → (∀ r ∈ rs, 1 ≤ r.g) → Spn N S rs → 0 < sbw rs (Frs N S) := by
  intro n
  induction n with
  | zero =>
    intro rs S hl hin hg hs
    obtain rfl : rs = [] := List.eq_nil_of_length_eq_zero hl
    have hf : ∀ i, i < N → S i = true := fun i hi => by
      cases h : S i
      · exact absurd ⟨i, rfl, h⟩ (hs (fun x => ∃ k : Nat, x = k ∧ S k = false) (fun r hr => by simp at hr) (fun s _ hs ⟨k, e, hk⟩ => by have : s = k := (by omega); rw [← this, hs] at hk; cases hk) i hi)
      · rfl
    rw [sbw_empty (fun T hT h => hT (List.eq_nil_of_length_eq_zero (by have := h.1; rw [cnt_full hf] at this; omega))) ⟨by rw [cnt_full hf]; simp, hs⟩]
    omega
  | succ n ih =>
    intro rs S hl hin hg hs
    by_cases hf : ∀ i, i < N → S i = true
    · rw [sbw_empty (fun T hT h => hT (List.eq_nil_of_length_eq_zero (by have := h.1; rw [cnt_full hf] at this; omega))) ⟨by rw [cnt_full hf]; simp, fun φ hφ h0 i hi => h0 i hi (hf i hi)⟩]
      omega
    · obtain ⟨u, hu⟩ : ∃ u, ¬ (u < N → S u = true) := Classical.not_forall.1 hf
      have huN : u < N := Classical.byContradiction (fun h => hu (fun h' => absurd h' h))
      have hu0 : S u = false := by cases h : S u <;> simp_all
      by_cases hj : ∀ r ∈ rs, S r.f.toNat = S r.t.toNat
      · exfalso
        refine hs (fun x => 0 ≤ x ∧ S x.toNat = false) (fun r hr => ?_) (fun s _ hs hk => by have := hk.2; rw [Int.toNat_natCast, hs] at this; cases this) u huN ⟨by omega, by rw [Int.toNat_natCast]; exact hu0⟩
        obtain ⟨h1, _, h3, _⟩ := hin r hr
        rw [hj r hr]
        exact ⟨fun h => ⟨h3, h.2⟩, fun h => ⟨h1, h.2⟩⟩
      · obtain ⟨r, hr⟩ : ∃ r, ¬ (r ∈ rs → S r.f.toNat = S r.t.toNat) := Classical.not_forall.1 hj
        have hrm : r ∈ rs := Classical.byContradiction (fun h => hr (fun h' => absurd h' h))
        have hne : S r.f.toNat ≠ S r.t.toNat := fun h => hr (fun _ => h)
        obtain ⟨r1, r2, r3, r4⟩ := hin r hrm
        obtain ⟨s, v, hJ, hs1, hv, hsN, hvN⟩ : ∃ s v, Joins2 r s v ∧ S s = true ∧ S v = false ∧ s < N ∧ v < N := by
          cases h1 : S r.f.toNat <;> cases h2 : S r.t.toNat
          · rw [h1, h2] at hne; exact absurd rfl hne
          · exact ⟨r.t.toNat, r.f.toNat, .inr ⟨by omega, by omega⟩, h2, h1, by omega, by omega⟩
          · exact ⟨r.f.toNat, r.t.toNat, .inl ⟨by omega, by omega⟩, h1, h2, by omega, by omega⟩
          · rw [h1, h2] at hne; exact absurd rfl hne
        have hgr := hg r hrm
        obtain ⟨l1, l2, rfl⟩ := List.append_of_mem hrm
        have hp : (l1 ++ r :: l2).Perm (r :: (l1 ++ l2)) := List.perm_middle
        have hsub : ∀ x ∈ l1 ++ l2, x ∈ l1 ++ r :: l2 := fun x hx => by
          rcases List.mem_append.1 hx with h | h
          · exact List.mem_append_left _ h
          · exact List.mem_append_right _ (List.mem_cons_of_mem _ h)
        have hl' : (l1 ++ l2).length = n := by simp at hl ⊢; omega
        have hsp : Spn N (insS S v) (l1 ++ l2) := Spn.ins hJ hs1 hsN hvN (Spn.perm hp hs)
        have hpos := ih (l1 ++ l2) (insS S v) hl' (fun x hx => hin x (hsub x hx)) (fun x hx => hg x (hsub x hx)) hsp
        have hnn := sbw_nn (rs := l1 ++ l2) (P := Frs N S) (fun x hx => hg x (hsub x hx))
        rw [sbw_perm hp Frs.perm]
        simp only [sbw]
        rw [sbw_congr (rs := l1 ++ l2) (P := fun T => Frs N S (r :: T)) (fun T _ => Frs.cons T hJ hs1 hv hsN hvN)]
        have := Int.mul_le_mul_of_nonneg_right hgr (show 0 ≤ sbw (l1 ++ l2) (Frs N (insS S v)) by omega)
        show 0 < sbw (l1 ++ l2) (Frs N S) + r.g * sbw (l1 ++ l2) (Frs N (insS S v))
        omega
/-- the forests of two trees that part two nodes, by weight; the trees, by weight -/
noncomputable def spN (N : Nat) (rs : List Rn) (i j : Nat) : Int := if i = j then 0 else sbw rs (Frs N (S2 i j))
noncomputable def trN (N : Nat) (rs : List Rn) : Int := sbw rs (Frs N S0)
theorem spN_self {N i : Nat} {rs : List Rn} : spN N rs i i = 0 := if_pos rfl
theorem spN_ne {N i j : Nat} {rs : List Rn} (h : i ≠ j) : spN N rs i j = sbw rs (Frs N (S2 i j)) := if_neg h
theorem spN_sym {N i j : Nat} {rs : List Rn} : spN N rs i j = spN N rs j i := by
  by_cases h : i = j
  · subst h; rfl
  · rw [spN_ne h, spN_ne (Ne.symm h), S2_sym]
theorem spN_nn {N i j : Nat} {rs : List Rn} (hg : ∀ r ∈ rs, 1 ≤ r.g) : 0 ≤ spN N rs i j := by
  unfold spN; split
  · omega
  · exact sbw_nn hg
theorem spN_pos {N i j : Nat} {rs : List Rn} (hin : InN N rs) (hg : ∀ r ∈ rs, 1 ≤ r.g) (hN : 0 < N) (hi : i < N) (hs : Spn N S0 rs) (h : i ≠ j) : 0 < spN N rs i j := by
  rw [spN_ne h]
  exact sbw_spn _ rs _ rfl hin hg (Spn.mono (S := S1 i) (fun s hs => S2_true.2 (.inl (by unfold S1 at hs; simpa using hs))) (fun _ h => h) (Spn.root (i := 0) hN hi hs))
/-- the third node is with one of both -/
theorem spN_tri {N i j k : Nat} {rs : List Rn} (hg : ∀ r ∈ rs, 1 ≤ r.g) (hi : i < N) (hj : j < N) (hk : k < N) : spN N rs i k ≤ spN N rs i j + spN N rs j k := by
  by_cases h1 : i = k
  · subst h1
    rw [spN_self]
    have a := spN_nn (N := N) (i := i) (j := j) hg
    have b := spN_nn (N := N) (i := j) (j := i) hg
    omega
  by_cases h2 : i = j
  · subst h2; rw [spN_self]; omega
  by_cases h3 : j = k
  · subst h3; rw [spN_self]; omega
  rw [spN_ne h1, spN_ne h2, spN_ne h3]
  refine sbw_le hg (fun T _ hT => ?_)
  obtain ⟨hl, hs⟩ := hT
  rw [cnt_S2 h1 hi hk] at hl
  by_cases hc : Spn N (S2 i j) T
  · exact .inl ⟨by rw [cnt_S2 h2 hi hj]; exact hl, hc⟩
  · refine .inr ⟨by rw [cnt_S2 h3 hj hk]; exact hl, ?_⟩
    -- some set without i and j is closed: it holds k; whatever else is closed without j and k ..
    have hx : ∃ φ : Int → Prop, (∀ r ∈ T, (φ r.f ↔ φ r.t)) ∧ ¬ φ i ∧ ¬ φ j ∧ φ k := by
      apply Classical.byContradiction
      intro hno
      refine hc (fun φ hφ h0 u hu hφu => ?_)
      have hi0 := h0 i hi (S2_left i j)
      have hj0 := h0 j hj (S2_right i j)
      by_cases hk0 : φ k
      · exact hno ⟨φ, hφ, hi0, hj0, hk0⟩
      · exact hs φ hφ (fun s _ hS => by rcases S2_true.1 hS with rfl | rfl <;> assumption) u hu hφu
    obtain ⟨ψ, hψ, hψi, hψj, hψk⟩ := hx
    intro φ hφ h0 u hu hφu
    have hj0 := h0 j hj (S2_left j k)
    have hk0 := h0 k hk (S2_right j k)
    by_cases hi0 : φ i
    · -- what is in neither φ nor ψ is closed and holds j, but neither i nor k
      exact hs (fun x => ¬ φ x ∧ ¬ ψ x) (fun r hr => and_congr (not_congr (hφ r hr)) (not_congr (hψ r hr))) (fun s _ hS => by
        rcases S2_true.1 hS with rfl | rfl
        · exact fun h => h.1 hi0
        · exact fun h => h.2 hψk) j hj ⟨hj0, hψj⟩
    · exact hs φ hφ (fun s _ hS => by rcases S2_true.1 hS with rfl | rfl <;> assumption) u hu hφu
theorem no_loop {N i j : Nat} {r : Rn} {T : List Rn} (hin : InN N T) (hij : i ≠ j) (hi : i < N) (hj : j < N) (hJ : Joins2 r i j) : ¬ Frs N (S2 i j) (r :: T) := fun h => by
  have hs : Spn N (S2 i j) T := fun φ hφ h0 => h.2 φ (fun x hx => by
    rcases List.mem_cons.1 hx with e | e
    · subst e
      have a := h0 i hi (S2_left i j)
      have b := h0 j hj (S2_right i j)
      rcases hJ with ⟨e1, e2⟩ | ⟨e1, e2⟩ <;> rw [e1, e2]
      · exact ⟨fun c => absurd c a, fun c => absurd c b⟩
      · exact ⟨fun c => absurd c b, fun c => absurd c a⟩
    · exact hφ x e) h0
  have h1 := Spn.len T.length rfl hin hs
  have h2 := h.1
  rw [List.length_cons] at h2
  omega
/-- one run between two nodes more -/
theorem spN_cons {N i j : Nat} {r : Rn} {rs : List Rn} (hin : InN N rs) (hij : i ≠ j) (hi : i < N) (hj : j < N) (hJ : Joins2 r i j) : spN N (r :: rs) i j = spN N rs i j ∧ trN N (r :: rs) = trN N rs + r.g * spN N rs i j := by
  rw [spN_ne hij, spN_ne hij]
  unfold trN
  constructor
  · simp only [sbw]
    rw [sbw_none (P := fun T => Frs N (S2 i j) (r :: T)) (fun T hT => no_loop (fun x hx => hin x (hT x hx)) hij hi hj hJ)]
    omega
  · have e : ∀ l : List Rn, sbw l (Frs N S0) = sbw l (Frs N (S1 i)) := fun l => sbw_congr (fun T _ => by rw [← S1_zero]; exact Frs.root (by omega) hi)
    rw [e, e]
    simp only [sbw]
    rw [sbw_congr (rs := rs) (P := fun T => Frs N (S1 i) (r :: T)) (fun T _ => Frs.cons T hJ (S1_self i) (S1_ne hij) hi hj)]
    rfl
theorem spN_perm {N i j : Nat} {rs rs' : List Rn} (h : rs.Perm rs') : spN N rs i j = spN N rs' i j ∧ trN N rs = trN N rs' := by
  unfold spN trN
  rw [sbw_perm h Frs.perm, sbw_perm h Frs.perm]
  exact ⟨rfl, rfl⟩
/-- without the run -/
theorem spN_erase {N k : Nat} {r : Rn} {rs : List Rn} (hin : InN N rs) (hr : rs[k]? = some r) (hne : r.f ≠ r.t) :
    spN N rs r.f.toNat r.t.toNat = spN N (rs.eraseIdx k) r.f.toNat r.t.toNat ∧ trN N rs = trN N (rs.eraseIdx k) + r.g * spN N rs r.f.toNat r.t.toNat := by
  obtain ⟨a1, a2, a3, a4⟩ := hin r (List.mem_of_getElem? hr)
  have hk := (List.getElem?_eq_some_iff.1 hr).1
  have hp : rs.Perm (r :: rs.eraseIdx k) := by
    have h1 : rs = rs.take k ++ r :: rs.drop (k + 1) := by
      rw [← (List.getElem?_eq_some_iff.1 hr).2, List.getElem_cons_drop, List.take_append_drop]
    have h2 : rs.eraseIdx k = rs.take k ++ rs.drop (k + 1) := List.eraseIdx_eq_take_drop_succ rs k
    rw [h2]
    exact (h1 ▸ List.Perm.refl rs : rs.Perm (rs.take k ++ r :: rs.drop (k + 1))).trans List.perm_middle
  have hin' : InN N (rs.eraseIdx k) := fun x hx => hin x (List.eraseIdx_subset hx)
  have h := spN_cons (r := r) (i := r.f.toNat) (j := r.t.toNat) hin' (by omega) (by omega) (by omega) (.inl ⟨by omega, by omega⟩)
  obtain ⟨p1, p2⟩ := spN_perm (N := N) (i := r.f.toNat) (j := r.t.toNat) hp
  rw [p1, h.1, p2, h.2]
  exact ⟨rfl, rfl⟩
end Go.Proofs.YtenllemaccacgaaGreatDoor
namespace Go.Proofs.YtenllemaccacgaaGreatDoor
set_option linter.unusedVariables false

/-- without a row and a column -/
def cut2 (a : Mx) (k l : Nat) : Mx := fun i j => a (skip k i) (skip l j)
theorem sm_skip : ∀ (n l : Nat) (f : Nat → Int), l < n + 1 → smn (n + 1) f = f l + smn n (fun c => f (skip l c))
  | 0, l, f, h => by
    obtain rfl : l = 0 := by omega
    simp [smn]
  | m + 1, l, f, h => by
    show smn (m + 1) f + f (m + 1) = _
    by_cases e : l = m + 1
    · subst e
      rw [sm_congr (f := fun c => f (skip (m + 1) c)) (g := f) (fun i hi => by unfold skip; rw [if_pos (by omega)])]
      omega
    · rw [sm_skip m l f (by omega)]
      have h1 : skip l m = m + 1 := by unfold skip; rw [if_neg (by omega)]
      show _ = f l + (smn m (fun c => f (skip l c)) + f (skip l m))
      rw [h1]; omega
theorem det_row0 {n k : Nat} {a : Mx} (hk : k < n) (h : ∀ j, j < n → a k j = 0) : det n a = 0 := by
  have e := det_upr_lin (n := n) a (fun _ => 0) (fun _ => 0) 0 0 hk
  rw [Int.zero_mul, Int.zero_mul] at e
  rw [← show det n (upr a k (fun j => 0 * (fun _ => (0 : Int)) j + 0 * (fun _ => (0 : Int)) j)) = 0 from e]
  refine det_congr (fun i j hi hj => ?_)
  by_cases e2 : i = k
  · subst e2; rw [upr_at, h j hj]; rfl
  · rw [upr_ne e2]
theorem det_unit : ∀ (n k l : Nat) (a : Mx), k < n + 1 → l < n + 1 → (∀ j, j < n + 1 → a k j = if j = l then 1 else 0) → det (n + 1) a = sgj (k + l) * det n (cut2 a k l)
  | n, 0, l, a, hk, hl, h => by
    show smn (n + 1) (fun j => sgj j * a 0 j * det n (mnr a j)) = _
    rw [sm_one (k := l) hl (fun j hj hne => by rw [h j hj, if_neg hne]; simp)]
    rw [h l hl, if_pos rfl, Int.mul_one, Nat.zero_add]
    rfl
  | 0, k + 1, l, a, hk, hl, h => absurd hk (by omega)
  | m + 1, k + 1, l, a, hk, hl, h => by
    show smn (m + 1 + 1) (fun j => sgj j * a 0 j * det (m + 1) (mnr a j)) = sgj (k + 1 + l) * smn (m + 1) (fun c => sgj c * cut2 a (k + 1) l 0 c * det m (mnr (cut2 a (k + 1) l) c))
    rw [sm_skip (m + 1) l _ hl, ← sm_mul]
    have z : det (m + 1) (mnr a l) = 0 := det_row0 (k := k) (by omega) (fun j hj => by
      show a (k + 1) (skip l j) = 0
      rw [h _ (skip_lt hj hl), if_neg (skip_ne l j)])
    rw [z, Int.mul_zero, Int.zero_add]
    refine sm_congr (fun c hc => ?_)
    obtain ⟨j, hj⟩ : ∃ j, skip l c = j := ⟨_, rfl⟩
    have hjl : l ≠ j := by rw [← hj]; exact (skip_ne l c).symm
    have hjn : j < m + 1 + 1 := by rw [← hj]; exact skip_lt hc hl
    have ih := det_unit m k (bck j l) (mnr a j) (by omega) (back_lt hjl hl hjn) (fun x hx => by
      show a (k + 1) (skip j x) = _
      rw [h _ (skip_lt hx hjn)]
      by_cases e : x = bck j l
      · rw [if_pos e, if_pos ((skip_eq hjl).2 e)]
      · rw [if_neg e, if_neg (fun h' => e ((skip_eq hjl).1 h'))])
    have hD : det m (cut2 (mnr a j) k (bck j l)) = det m (mnr (cut2 a (k + 1) l) c) := det_congr (fun x y _ _ => by
      show a (skip k x + 1) (skip j (skip (bck j l) y)) = a (skip (k + 1) (x + 1)) (skip l (skip c y))
      have e1 : skip (k + 1) (x + 1) = skip k x + 1 := by unfold skip; split <;> split <;> omega
      have e2 : skip j (skip (bck j l) y) = skip l (skip c y) := by
        rw [← hj] at hjl ⊢
        by_cases hcl : c < l
        · have a1 : skip l c = c := by unfold skip; rw [if_pos hcl]
          have a2 : bck c l = l - 1 := by unfold bck; rw [if_neg (by omega)]
          rw [a1, a2]
          unfold skip
          by_cases y1 : y < c
          · simp only [if_pos (show y < l - 1 by omega), if_pos y1, if_pos (show y < l by omega)]
          · by_cases y2 : y < l - 1
            · simp only [if_pos y2, if_neg y1, if_pos (show y + 1 < l by omega)]
            · simp only [if_neg y2, if_neg (show ¬ y + 1 < c by omega), if_neg y1, if_neg (show ¬ y + 1 < l by omega)]
        · have a1 : skip l c = c + 1 := by unfold skip; rw [if_neg hcl]
          have a2 : bck (c + 1) l = l := by unfold bck; rw [if_pos (by omega)]
          rw [a1, a2]
          unfold skip
          by_cases y1 : y < l
          · simp only [if_pos y1, if_pos (show y < c + 1 by omega), if_pos (show y < c by omega)]
          · by_cases y2 : y < c
            · simp only [if_neg y1, if_pos (show y + 1 < c + 1 by omega), if_pos y2]
            · simp only [if_neg y1, if_neg (show ¬ y + 1 < c + 1 by omega), if_neg y2, if_neg (show ¬ y + 1 < l by omega)]
      rw [e1, e2])
    have hS : sgj j * sgj (k + bck j l) = sgj (k + 1 + l) * sgj c := by
      rw [← hj]
      by_cases hcl : c < l
      · have a1 : skip l c = c := by unfold skip; rw [if_pos hcl]
        have a2 : bck c l = l - 1 := by unfold bck; rw [if_neg (by omega)]
        rw [a1, a2]
        have e : sgj (k + (l - 1)) = sgj (k + 1 + l) := by unfold sgj; split <;> split <;> omega
        rw [e, Int.mul_comm]
      · have a1 : skip l c = c + 1 := by unfold skip; rw [if_neg hcl]
        have a2 : bck (c + 1) l = l := by unfold bck; rw [if_pos (by omega)]
        rw [a1, a2, sg_succ]
        have e : sgj (k + 1 + l) = -sgj (k + l) := by rw [← sg_succ]; congr 1; omega
        rw [e, Int.neg_mul, Int.neg_mul, Int.mul_comm]
    show sgj (skip l c) * a 0 (skip l c) * det (m + 1) (mnr a (skip l c)) = sgj (k + 1 + l) * (sgj c * a 0 (skip l c) * det m (mnr (cut2 a (k + 1) l) c))
    rw [hj, ih, hD]
    have e : sgj j * a 0 j * (sgj (k + bck j l) * det m (mnr (cut2 a (k + 1) l) c)) = (sgj j * sgj (k + bck j l)) * (a 0 j * det m (mnr (cut2 a (k + 1) l) c)) := by
      rw [Int.mul_assoc, Int.mul_assoc, ← Int.mul_assoc (a 0 j), Int.mul_comm (a 0 j), Int.mul_assoc (sgj (k + bck j l))]
    rw [e, hS]
    rw [Int.mul_assoc, Int.mul_assoc]
theorem sgj_two (k : Nat) : sgj (k + k) = 1 := by unfold sgj; rw [if_pos (by omega)]
/-- the spread's numerator is a determinant -/
theorem det_spN {n lo hi : Nat} {rs : List Rn} (hin : InN (n + 2) rs) (h1 : lo < hi) (h2 : hi < n + 2) : det n (cut2 (cut2 (lap rs) hi hi) lo lo) = spN (n + 2) rs lo hi := by
  rw [spN_ne (by omega), ← forest _ rs _ rfl hin]
  rw [det_unit (n + 1) hi hi (gnd (S2 lo hi) rs) h2 h2 (fun j _ => by
    unfold gnd one
    rw [if_pos (S2_right lo hi)]
    by_cases e : j = hi
    · rw [if_pos e, if_pos e.symm]
    · rw [if_neg e, if_neg (fun h => e h.symm)]), sgj_two, Int.one_mul]
  have hl : skip hi lo = lo := by unfold skip; rw [if_pos h1]
  rw [det_unit n lo lo (cut2 (gnd (S2 lo hi) rs) hi hi) (by omega) (by omega) (fun j hj => by
    unfold cut2
    rw [hl]
    unfold gnd one
    rw [if_pos (S2_left lo hi)]
    by_cases e : j = lo
    · subst e; rw [if_pos rfl, hl, if_pos rfl]
    · rw [if_neg e, if_neg (fun h => by
        unfold skip at h
        split at h <;> omega)]), sgj_two, Int.one_mul]
  refine det_congr (fun x y _ _ => ?_)
  unfold cut2 gnd
  have e1 : skip hi (skip lo x) ≠ hi := skip_ne _ _
  have e2 : skip hi (skip lo x) ≠ lo := fun h => by
    have := (skip_eq (j := hi) (c := lo) (k := skip lo x) (by omega)).1 h
    have e3 : bck hi lo = lo := by unfold bck; rw [if_pos h1]
    rw [e3] at this
    exact skip_ne lo x this
  rw [if_neg (fun h => by exact (S2_true.1 h).elim e2 e1)]
end Go.Proofs.YtenllemaccacgaaGreatDoor
namespace Go.Proofs.YtenllemaccacgaaGreatDoor
set_option linter.unusedVariables false

theorem sbw_erase_sum : ∀ (rs : List Rn) (P : List Rn → Prop) (c : Int), (∀ T, P T → (T.length : Int) = c) → smn rs.length (fun k => sbw (rs.eraseIdx k) P) = ((rs.length : Int) - c) * sbw rs P
  | [], P, c, h => by
    show 0 = _
    unfold sbw
    split
    · rename_i hp
      have := h [] hp
      simp at this ⊢
      omega
    · simp
  | r :: l, P, c, h => by
    have h1 := sbw_erase_sum l P c h
    have h2 := sbw_erase_sum l (fun T => P (r :: T)) (c - 1) (fun T hT => by
      have := h (r :: T) hT
      rw [List.length_cons] at this
      omega)
    rw [List.length_cons, sm_head]
    show sbw l P + smn l.length (fun k => sbw (r :: l.eraseIdx k) P) = _
    simp only [sbw]
    rw [sm_add, sm_mul, h1, h2]
    obtain ⟨X, hX⟩ : ∃ X, sbw l P = X := ⟨_, rfl⟩
    obtain ⟨Y, hY⟩ : ∃ X, sbw l (fun T => P (r :: T)) = X := ⟨_, rfl⟩
    rw [hX, hY]
    obtain ⟨m, hm⟩ : ∃ m : Int, (l.length : Int) = m := ⟨_, rfl⟩
    have e : ((l.length + 1 : Nat) : Int) = m + 1 := by omega
    rw [hm, e]
    have e2 : m - (c - 1) = m + 1 - c := by omega
    rw [e2, Int.mul_add, ← Int.mul_assoc r.g, Int.mul_comm r.g, Int.mul_assoc]
    have e3 : (m + 1 - c) * X = X + (m - c) * X := by
      rw [show m + 1 - c = 1 + (m - c) by omega, Int.add_mul, Int.one_mul]
    rw [e3]
    omega
/-- how many subsets of a size there are -/
def chs : Nat → Nat → Nat
  | _, 0 => 1
  | 0, _ + 1 => 0
  | n + 1, c + 1 => chs n c + chs n (c + 1)
theorem sbw_high : ∀ (rs : List Rn) (P : List Rn → Prop) (c : Nat), (∀ r ∈ rs, 1 ≤ r.g ∧ r.g ≤ 9) → (∀ T, P T → T.length = c) → sbw rs P ≤ (chs rs.length c : Int) * 9 ^ c
  | [], P, c, _, h => by
    unfold sbw
    split
    · rename_i hp
      have := h [] hp
      simp at this
      subst this
      simp [chs]
    · have := Int.mul_nonneg (show 0 ≤ (chs ([] : List Rn).length c : Int) by omega) (Int.le_of_lt (Int.pow_pos (n := 9) (m := c) (by omega)))
      omega
  | r :: l, P, 0, hg, h => by
    simp only [sbw]
    have h1 := sbw_high l P 0 (fun x hx => hg x (List.mem_cons_of_mem _ hx)) h
    rw [sbw_none (rs := l) (P := fun T => P (r :: T)) (fun T _ hp => by have := h _ hp; simp at this)]
    have e : chs (r :: l).length 0 = 1 := by unfold chs; rfl
    have e2 : chs l.length 0 = 1 := by unfold chs; rfl
    rw [e2] at h1
    rw [e]
    omega
  | r :: l, P, c + 1, hg, h => by
    simp only [sbw]
    have hg' := fun x hx => hg x (List.mem_cons_of_mem r hx)
    have h1 := sbw_high l P (c + 1) hg' h
    have h2 := sbw_high l (fun T => P (r :: T)) c hg' (fun T hT => by have := h _ hT; simpa using this)
    have n2 := sbw_nn (rs := l) (P := fun T => P (r :: T)) (fun x hx => (hg' x hx).1)
    have hr := hg r (by simp)
    have e : chs (r :: l).length (c + 1) = chs l.length c + chs l.length (c + 1) := by rw [List.length_cons]; rfl
    rw [e]
    have e9 : (9 : Int) ^ (c + 1) = 9 * 9 ^ c := by rw [Int.pow_succ, Int.mul_comm]
    obtain ⟨A, hA⟩ : ∃ A : Int, (chs l.length c : Int) * 9 ^ c = A := ⟨_, rfl⟩
    have h3 : r.g * sbw l (fun T => P (r :: T)) ≤ 9 * A := by
      rw [hA] at h2
      have a := Int.mul_le_mul_of_nonneg_right hr.2 n2
      have b := Int.mul_le_mul_of_nonneg_left h2 (show (0 : Int) ≤ 9 by omega)
      omega
    have e4 : ((chs l.length c + chs l.length (c + 1) : Nat) : Int) * 9 ^ (c + 1) = 9 * A + (chs l.length (c + 1) : Int) * 9 ^ (c + 1) := by
      rw [Int.natCast_add, Int.add_mul, e9, ← hA]
      congr 1
      rw [← Int.mul_assoc, Int.mul_comm _ 9, Int.mul_assoc]
    omega
theorem trN_det {n : Nat} {rs : List Rn} (hin : InN (n + 1) rs) : trN (n + 1) rs = dT n rs := (det_trees hin).symm
theorem trN_nn {N : Nat} {rs : List Rn} (hg : ∀ r ∈ rs, 1 ≤ r.g) : 0 ≤ trN N rs := sbw_nn hg
/-- there is a tree exactly if the net is whole -/
theorem trN_pos {N : Nat} {rs : List Rn} (hin : InN N rs) (hg : ∀ r ∈ rs, 1 ≤ r.g) : 0 < trN N rs ↔ Spn N S0 rs := by
  constructor
  · intro h
    apply Classical.byContradiction
    intro hs
    have : trN N rs = 0 := sbw_none (fun T hT hf => hs (Spn.mono (fun _ h => h) hT hf.2))
    omega
  · exact sbw_spn _ rs _ rfl hin hg
/-- the spreads of all runs, times their weights, make the runs of a tree -/
theorem spN_sum {n : Nat} {rs : List Rn} (hin : InN (n + 1) rs) (hne : ∀ r ∈ rs, r.f ≠ r.t) : lsm rs (fun r => r.g * spN (n + 1) rs r.f.toNat r.t.toNat) = n * trN (n + 1) rs := by
  have h := sbw_erase_sum rs (Frs (n + 1) S0) n (fun T hT => by
    have := hT.1
    rw [cnt_S0] at this
    omega)
  have e : smn rs.length (fun k => sbw (rs.eraseIdx k) (Frs (n + 1) S0)) = smn rs.length (fun k => trN (n + 1) rs - (runOf rs k).g * spN (n + 1) rs (runOf rs k).f.toNat (runOf rs k).t.toNat) := sm_congr (fun k hk => by
    have hr : rs[k]? = some (runOf rs k) := by
      unfold runOf; rw [Int.toNat_natCast, List.getElem?_eq_getElem hk]; rfl
    have := (spN_erase hin hr (hne _ (List.mem_of_getElem? hr))).2
    show trN (n + 1) (rs.eraseIdx k) = _
    omega)
  have e2 : ∀ (l : List Rn) (F : Rn → Int), lsm l F = smn l.length (fun k => F (runOf l k)) := by
    intro l F
    induction l with
    | nil => rfl
    | cons r l ih =>
      rw [List.length_cons, sm_head]
      simp only [lsm]
      rw [ih]
      rfl
  rw [e2]
  rw [e] at h
  have e3 : smn rs.length (fun k => trN (n + 1) rs - (runOf rs k).g * spN (n + 1) rs (runOf rs k).f.toNat (runOf rs k).t.toNat) = smn rs.length (fun _ => trN (n + 1) rs) - smn rs.length (fun k => (runOf rs k).g * spN (n + 1) rs (runOf rs k).f.toNat (runOf rs k).t.toNat) := by
    have a := sm_add rs.length (fun _ => trN (n + 1) rs) (fun k => -((runOf rs k).g * spN (n + 1) rs (runOf rs k).f.toNat (runOf rs k).t.toNat))
    rw [sm_neg] at a
    exact a
  have e4 : ∀ m : Nat, smn m (fun _ => trN (n + 1) rs) = (m : Int) * trN (n + 1) rs := by
    intro m
    induction m with
    | zero => simp [smn]
    | succ m ih => simp only [smn]; rw [ih, Int.natCast_add, Int.add_mul]; simp
  rw [e3, e4, Int.sub_mul] at h
  show _ = (n : Int) * sbw rs (Frs (n + 1) S0)
  unfold trN at h
  omega
end Go.Proofs.YtenllemaccacgaaGreatDoor
namespace Go.Proofs.YtenllemaccacgaaGreatDoor
set_option linter.unusedVariables false

theorem det_col {n t : Nat} {a : Mx} (ht : t < n + 1) : det (n + 1) (upc a t (fun i => if i = t then 1 else 0)) = det n (cut2 a t t) := by
  rw [← det_trn, det_unit n t t (trn (upc a t (fun i => if i = t then 1 else 0))) ht ht (fun j hj => by
    show upc a t _ j t = _
    rw [upd_at]), sgj_two, Int.one_mul, ← det_trn n (cut2 a t t)]
  refine det_congr (fun i j _ _ => ?_)
  simp only [cut2, trn]
  exact upd_ne (skip_ne t i)
/-- the spread is what a current from one node to the other asks -/
theorem spN_pot {n f t : Nat} {rs : List Rn} {y : Nat → Int} {c : Int} (hin : InN (n + 1) rs) (hf : f < n + 1) (ht : t < n + 1) (hne : f ≠ t)
    (h : ∀ i, i < n + 1 → smn (n + 1) (fun k => lap rs i k * y k) = c * ((if i = t then 1 else 0) - (if i = f then 1 else 0))) : (y t - y f) * trN (n + 1) rs = c * spN (n + 1) rs f t := by
  have hb : ∀ i, i < n + 1 → smn (n + 1) (fun k => gnd (S1 f) rs i k * (y k - y f)) = c * (if i = t then 1 else 0) + 0 * 0 := fun i hi => by
    by_cases e : i = f
    · subst e
      rw [sm_one (k := i) hi (fun k _ hk => by
        unfold gnd one
        rw [if_pos (S1_self i), if_neg (fun h => hk h.symm), Int.zero_mul]), if_neg hne]
      simp
    · have h1 := h i hi
      rw [if_neg e, Int.sub_zero] at h1
      have h2 := lap_row hin i
      have e2 : smn (n + 1) (fun k => gnd (S1 f) rs i k * (y k - y f)) = smn (n + 1) (fun k => lap rs i k * y k + (-(y f)) * lap rs i k) := sm_congr (fun k _ => by
        unfold gnd
        rw [if_neg (by rw [S1_ne (fun h => e h.symm)]; simp), Int.mul_sub, Int.mul_comm (lap rs i k) (y f), Int.neg_mul]
        omega)
      rw [e2, sm_add, sm_mul, h1, h2]
      omega
  have hc := cramer_back (gnd (S1 f) rs) ht (fun k => y k - y f)
  rw [det_congr (b := upc (gnd (S1 f) rs) t (fun i => c * (if i = t then 1 else 0) + 0 * (fun _ => (0 : Int)) i)) (fun i k hi hk => by
    by_cases e : k = t
    · subst e; rw [upd_at, upd_at, hb i hi]
    · rw [upd_ne e, upd_ne e]), det_lin (gnd (S1 f) rs) t (fun i => if i = t then 1 else 0) (fun _ => 0) c 0 ht, Int.zero_mul, Int.add_zero, det_col ht, forest _ rs _ rfl hin] at hc
  have hT : sbw rs (Frs (n + 1) (S1 f)) = trN (n + 1) rs := sbw_congr (fun T _ => by rw [← S1_zero]; exact Frs.root hf (by omega))
  rw [hT] at hc
  rw [← hc, spN_ne hne, ← forest _ rs _ rfl hin]
  rw [det_unit n t t (gnd (S2 f t) rs) ht ht (fun j _ => by
    unfold gnd one
    rw [if_pos (S2_right f t)]
    by_cases e : j = t
    · rw [if_pos e, if_pos e.symm]
    · rw [if_neg e, if_neg (fun h => e h.symm)]), sgj_two, Int.one_mul]
  congr 1
  refine det_congr (fun i j _ _ => ?_)
  show gnd (S1 f) rs (skip t i) (skip t j) = gnd (S2 f t) rs (skip t i) (skip t j)
  unfold gnd
  have e : S2 f t (skip t i) = S1 f (skip t i) := by
    unfold S2 insS
    have : (skip t i == t) = false := by simpa using skip_ne t i
    rw [this, Bool.or_false]
  rw [e]
/-- a run with its rise moved -/
def movS (d : Int) (r : Rn) : Rn := ⟨r.f, r.t, r.s + d, r.g⟩
theorem lap_set {k : Nat} {r : Rn} {rs : List Rn} {d : Int} (hr : rs[k]? = some r) (i j : Nat) : lap (rs.set k (movS d r)) i j = lap rs i j := by
  have hk := (List.getElem?_eq_some_iff.1 hr).1
  have h2 : (rs.set k (movS d r))[k]? = some (movS d r) := by rw [List.getElem?_set, if_pos rfl, if_pos hk]
  unfold lap
  rw [lsm_erase hr, lsm_erase h2, List.eraseIdx_set_eq]
  rfl
theorem dT_set {n k : Nat} {r : Rn} {rs : List Rn} {d : Int} (hr : rs[k]? = some r) : dT n (rs.set k (movS d r)) = dT n rs := det_congr (fun i j _ _ => lap_set hr (i + 1) (j + 1))
/-- what a moved rise moves -/
theorem rise_move {n k : Nat} {r : Rn} {rs : List Rn} {d : Int} (hin : InN (n + 1) rs) (hr : rs[k]? = some r) (hne : r.f ≠ r.t) (hD : dT n rs ≠ 0) :
    hT n (rs.set k (movS d r)) r.t.toNat - hT n (rs.set k (movS d r)) r.f.toNat = hT n rs r.t.toNat - hT n rs r.f.toNat + d * (r.g * spN (n + 1) rs r.f.toNat r.t.toNat) := by
  have hk := (List.getElem?_eq_some_iff.1 hr).1
  have h2 : (rs.set k (movS d r))[k]? = some (movS d r) := by rw [List.getElem?_set, if_pos rfl, if_pos hk]
  obtain ⟨a1, a2, a3, a4⟩ := hin r (List.mem_of_getElem? hr)
  have hin' : InN (n + 1) (rs.set k (movS d r)) := fun x hx => by
    rcases List.mem_or_eq_of_mem_set hx with h | h
    · exact hin x h
    · subst h; exact ⟨a1, a2, a3, a4⟩
  obtain ⟨D, hDe⟩ : ∃ D, dT n rs = D := ⟨_, rfl⟩
  have hs := hT_solves n rs
  have hs' := hT_solves n (rs.set k (movS d r))
  rw [dT_set hr, hDe] at hs'
  rw [hDe] at hs
  have hp := spN_pot (f := r.f.toNat) (t := r.t.toNat) (y := fun i => hT n (rs.set k (movS d r)) i - hT n rs i) (c := D * (d * r.g)) hin (by omega) (by omega) (by omega) (fun i hi => by
    have b1 := hs.balN hin rfl hi
    have b2 := hs'.balN hin' rfl hi
    rw [lap_apply hin i]
    unfold bal at b1 b2
    rw [lsm_erase hr] at b1 ⊢
    rw [lsm_erase h2, List.eraseIdx_set_eq] at b2
    have e1 : lsm (rs.eraseIdx k) (fun r_1 => r_1.g * inc r_1 i * (hT n (rs.set k (movS d r)) r_1.t.toNat - hT n (rs.set k (movS d r)) r_1.f.toNat - D * r_1.s)) - lsm (rs.eraseIdx k) (fun r_1 => r_1.g * inc r_1 i * (hT n rs r_1.t.toNat - hT n rs r_1.f.toNat - D * r_1.s)) = lsm (rs.eraseIdx k) (fun x => x.g * inc x i * ((hT n (rs.set k (movS d r)) x.t.toNat - hT n rs x.t.toNat) - (hT n (rs.set k (movS d r)) x.f.toNat - hT n rs x.f.toNat))) := by
      rw [← lsm_sub]
      exact lsm_congr (fun x _ => by rw [← Int.mul_sub]; congr 1; omega)
    rw [← e1]
    have e2 : inc (movS d r) i = inc r i := rfl
    rw [e2] at b2
    have e3 : (movS d r).g = r.g := rfl
    have e4 : (movS d r).t = r.t := rfl
    have e5 : (movS d r).f = r.f := rfl
    have e6 : (movS d r).s = r.s + d := rfl
    rw [e3, e4, e5, e6] at b2
    have e7 : inc r i = (if i = r.t.toNat then 1 else 0) - (if i = r.f.toNat then 1 else 0) := by
      unfold inc
      have x1 : r.t = (i : Int) ↔ i = r.t.toNat := by omega
      have x2 : r.f = (i : Int) ↔ i = r.f.toNat := by omega
      simp only [x1, x2]
    rw [← e7]
    obtain ⟨I, hI⟩ : ∃ I, inc r i = I := ⟨_, rfl⟩
    rw [hI] at b1 b2 ⊢
    obtain ⟨p, hp⟩ : ∃ p, hT n (rs.set k (movS d r)) r.t.toNat - hT n (rs.set k (movS d r)) r.f.toNat = p := ⟨_, rfl⟩
    obtain ⟨q, hq⟩ : ∃ p, hT n rs r.t.toNat - hT n rs r.f.toNat = p := ⟨_, rfl⟩
    rw [hp] at b2
    rw [hq] at b1
    have e8 : (hT n (rs.set k (movS d r)) r.t.toNat - hT n rs r.t.toNat) - (hT n (rs.set k (movS d r)) r.f.toNat - hT n rs r.f.toNat) = p - q := by omega
    rw [e8]
    have e9 : r.g * I * (p - q) = (r.g * I * (p - D * (r.s + d)) - r.g * I * (q - D * r.s)) + D * (d * r.g) * I := by
      simp only [Int.mul_sub, Int.mul_add]
      have : r.g * I * (D * d) = D * (d * r.g) * I := by
        rw [Int.mul_comm (r.g * I), Int.mul_assoc D d, Int.mul_assoc D (d * r.g), Int.mul_assoc d]
      omega
    rw [e9]
    omega)
  rw [trN_det hin, hDe] at hp
  have e : D * (d * r.g) * spN (n + 1) rs r.f.toNat r.t.toNat = (d * (r.g * spN (n + 1) rs r.f.toNat r.t.toNat)) * D := by
    rw [Int.mul_assoc D, Int.mul_comm D, Int.mul_assoc d]
  rw [e] at hp
  have := Int.eq_of_mul_eq_mul_right (by rw [← hDe]; exact hD) hp
  omega
end Go.Proofs.YtenllemaccacgaaGreatDoor
namespace Go.Proofs.YtenllemaccacgaaGreatDoor
set_option linter.unusedVariables false

theorem S3_true {i j u k : Nat} : insS (S2 i j) u k = true ↔ k = i ∨ k = j ∨ k = u := by
  unfold insS
  rw [Bool.or_eq_true, S2_true, beq_iff_eq]
  exact or_assoc
theorem S3_sym {i j u : Nat} : insS (S2 i j) u = insS (S2 u j) i := by
  funext k
  have a := @S3_true i j u k
  have b := @S3_true u j i k
  cases h1 : insS (S2 i j) u k <;> cases h2 : insS (S2 u j) i k <;> simp [h1, h2] at a b ⊢ <;> omega
theorem cut_root {N i j u : Nat} {T : List Rn} {C : Int → Prop} (hC : ∀ r ∈ T, (C r.f ↔ C r.t)) (hi : C i) (hu : ¬ C u) (hj : ¬ C j) (hiN : i < N) (huN : u < N) (hjN : j < N) (h : Spn N (S2 i j) T) : Spn N (S2 i u) T := fun φ hφ h0 k hk hφk => by
  have hi0 := h0 i hiN (S2_left i u)
  have hu0 := h0 u huN (S2_right i u)
  by_cases hj0 : φ j
  · exact h (fun x => ¬ φ x ∧ ¬ C x) (fun r hr => and_congr (not_congr (hφ r hr)) (not_congr (hC r hr))) (fun s _ hS => by
      rcases S2_true.1 hS with rfl | rfl
      · exact fun h => h.2 hi
      · exact fun h => h.1 hj0) u huN ⟨hu0, hu⟩
  · exact h φ hφ (fun s _ hS => by rcases S2_true.1 hS with rfl | rfl <;> assumption) k hk hφk
/-- a run without which a node's part falls off -/
theorem spN_bridge {N i j u : Nat} {r : Rn} {rs : List Rn} {C : Int → Prop} (hin : InN N rs) (hJ : Joins2 r i u) (hC : ∀ x ∈ rs, (C x.f ↔ C x.t)) (hi : C i) (hu : ¬ C u) (hj : ¬ C j) (hiN : i < N) (huN : u < N) (hjN : j < N) (huj : u ≠ j) :
    ∃ X Y : Int, spN N (r :: rs) i j = X + r.g * Y ∧ spN N (r :: rs) u j = r.g * Y ∧ trN N (r :: rs) = r.g * X ∧ spN N rs i u = X := by
  have hiu : i ≠ u := fun h => hu (h ▸ hi)
  have hij : i ≠ j := fun h => hj (h ▸ hi)
  have hsub : ∀ T : List Rn, (∀ x ∈ T, x ∈ rs) → ∀ x ∈ T, (C x.f ↔ C x.t) := fun T hT x hx => hC x (hT x hx)
  refine ⟨spN N rs i u, sbw rs (Frs N (insS (S2 i j) u)), ?_, ?_, ?_, rfl⟩
  · rw [spN_ne hij, spN_ne hiu]
    simp only [sbw]
    rw [sbw_congr (rs := rs) (P := fun T => Frs N (S2 i j) (r :: T)) (fun T _ => Frs.cons T hJ (S2_left i j) (by
      cases h : S2 i j u
      · rfl
      · rcases S2_true.1 h with h | h <;> omega) hiN huN)]
    congr 1
    refine sbw_congr (fun T hT => ?_)
    unfold Frs
    rw [cnt_S2 hij hiN hjN, cnt_S2 hiu hiN huN]
    exact and_congr Iff.rfl ⟨cut_root (hsub T hT) hi hu hj hiN huN hjN, cut_root (hsub T hT) hi hj hu hiN hjN huN⟩
  · rw [spN_ne huj]
    simp only [sbw]
    rw [sbw_none (rs := rs) (P := Frs N (S2 u j)) (fun T hT hf => hf.2 C (hsub T hT) (fun s _ hS => by
      rcases S2_true.1 hS with rfl | rfl <;> assumption) i hiN hi), Int.zero_add]
    congr 1
    rw [S3_sym]
    exact sbw_congr (rs := rs) (P := fun T => Frs N (S2 u j) (r :: T)) (fun T _ => Frs.cons T (Or.symm hJ) (S2_left u j) (by
      cases h : S2 u j i
      · rfl
      · rcases S2_true.1 h with h | h <;> omega) huN hiN)
  · have h := (spN_cons (r := r) (rs := rs) hin hiu hiN huN hJ).2
    rw [h]
    have z : trN N rs = 0 := sbw_none (fun T hT hf => by
      have hs : Spn N (S1 u) T := Spn.root (i := 0) (by omega) huN hf.2
      exact hs C (hsub T hT) (fun s _ hS => by
        have : s = u := by unfold S1 at hS; simpa using hS
        subst this; exact hu) i hiN hi)
    rw [z, Int.zero_add]
end Go.Proofs.YtenllemaccacgaaGreatDoor
namespace Go.Proofs.YtenllemaccacgaaGreatDoor
set_option linter.unusedVariables false

theorem Frs.far {N : Nat} {S : Nat → Bool} {T : List Rn} (hin : InN N T) (hS : S N = false) : ¬ Frs (N + 1) S T := fun h =>
  h.2 (fun x => x = (N : Int)) (fun r hr => by have := hin r hr; constructor <;> intro _ <;> omega) (fun s hs hs1 h => by
    have : s = N := by omega
    rw [this, hS] at hs1; cases hs1) N (by omega) rfl
theorem Frs.lone {N : Nat} {S : Nat → Bool} {T : List Rn} (hin : InN N T) (hS : S N = false) : Frs (N + 1) (insS S N) T ↔ Frs N S T := by
  unfold Frs
  have e : cnt (insS S N) (N + 1) = cnt S N + 1 := by
    rw [cnt_ins hS, if_pos (by omega)]
    show cnt S N + (if S N = true then 1 else 0) + 1 = _
    rw [hS]; simp
  rw [e]
  refine and_congr (by omega) ⟨fun h φ hφ h0 i hi hφi => ?_, fun h φ hφ h0 i hi hφi => ?_⟩
  · refine h (fun x => φ x ∧ x ≠ (N : Int)) (fun r hr => ?_) (fun s hs hs1 hc => ?_) i (by omega) ⟨hφi, by omega⟩
    · have := hin r hr
      rw [hφ r hr]
      constructor <;> intro h <;> exact ⟨h.1, by omega⟩
    · unfold insS at hs1
      rcases Bool.or_eq_true_iff.1 hs1 with h1 | h1
      · exact h0 s (by have := hc.2; omega) h1 hc.1
      · have : s = N := by simpa using h1
        exact hc.2 (by omega)
  · by_cases e2 : i = N
    · subst e2
      exact h0 i hi (by unfold insS; simp) hφi
    · exact h φ hφ (fun s hs hs1 => h0 s (by omega) (by unfold insS; rw [hs1]; rfl)) i (by omega) hφi
/-- two runs in a row -/
theorem spN_series {N f t : Nat} {a b : Rn} {rs : List Rn} {g : Int} (hin : InN N rs) (hf : f < N) (ht : t < N) (hft : f ≠ t) (ha : Joins2 a f N) (hb : Joins2 b t N) (hag : a.g = 2 * g) (hbg : b.g = 2 * g) :
    spN (N + 1) (a :: b :: rs) f t = 4 * g * spN N rs f t ∧ trN (N + 1) (a :: b :: rs) = 4 * g * (trN N rs + g * spN N rs f t) := by
  have s2 : S2 f t N = false := by
    cases h : S2 f t N
    · rfl
    · rcases S2_true.1 h with h | h <;> omega
  have hsub : ∀ T : List Rn, (∀ x ∈ T, x ∈ rs) → InN N T := fun T hT x hx => hin x (hT x hx)
  have X1 : sbw rs (fun T => Frs (N + 1) (S2 f t) (b :: T)) = spN N rs f t := by
    rw [spN_ne hft]
    exact sbw_congr (rs := rs) (P := fun T => Frs (N + 1) (S2 f t) (b :: T)) (fun T hT => (Frs.cons T hb (S2_right f t) s2 (by omega) (by omega)).trans (Frs.lone (hsub T hT) s2))
  have X2 : sbw rs (fun T => Frs (N + 1) (S2 f t) (a :: T)) = spN N rs f t := by
    rw [spN_ne hft]
    exact sbw_congr (rs := rs) (P := fun T => Frs (N + 1) (S2 f t) (a :: T)) (fun T hT => (Frs.cons T ha (S2_left f t) s2 (by omega) (by omega)).trans (Frs.lone (hsub T hT) s2))
  have X3 : sbw rs (fun T => Frs (N + 1) (S2 f t) (a :: b :: T)) = 0 := sbw_none (fun T hT h => by
    have h1 := (Frs.cons (b :: T) ha (S2_left f t) s2 (by omega) (by omega)).1 h
    -- b joins two grounded nodes
    have hs : Spn (N + 1) (insS (S2 f t) N) T := fun φ hφ h0 => h1.2 φ (fun x hx => by
      rcases List.mem_cons.1 hx with e | e
      · subst e
        have p := h0 t (by omega) (by unfold insS; rw [S2_right]; rfl)
        have q := h0 N (by omega) (by unfold insS; simp)
        rcases hb with ⟨e1, e2⟩ | ⟨e1, e2⟩ <;> rw [e1, e2]
        · exact ⟨fun c => absurd c p, fun c => absurd c q⟩
        · exact ⟨fun c => absurd c q, fun c => absurd c p⟩
      · exact hφ x e) h0
    have h2 := Spn.len T.length rfl (fun x hx => by have := hin x (hT x hx); omega) hs
    have h3 := h1.1
    rw [List.length_cons] at h3
    omega)
  have X0 : sbw rs (Frs (N + 1) (S2 f t)) = 0 := sbw_none (fun T hT => Frs.far (hsub T hT) s2)
  have S0f : S1 f N = false := S1_ne (by omega)
  have S0t : S1 t N = false := S1_ne (by omega)
  have eR : ∀ i, i < N + 1 → ∀ T, Frs (N + 1) S0 T ↔ Frs (N + 1) (S1 i) T := fun i hi T => by rw [← S1_zero]; exact Frs.root (by omega) hi
  have eR' : ∀ i, i < N → ∀ T, Frs N S0 T ↔ Frs N (S1 i) T := fun i hi T => by rw [← S1_zero]; exact Frs.root (by omega) hi
  have Y0 : sbw rs (Frs (N + 1) S0) = 0 := sbw_none (fun T hT h => Frs.far (hsub T hT) S0f ((eR f (by omega) T).1 h))
  have Y1 : sbw rs (fun T => Frs (N + 1) S0 (b :: T)) = trN N rs := sbw_congr (rs := rs) (P := fun T => Frs (N + 1) S0 (b :: T)) (fun T hT => (eR t (by omega) _).trans ((Frs.cons T hb (S1_self t) S0t (by omega) (by omega)).trans ((Frs.lone (hsub T hT) S0t).trans (eR' t ht T).symm)))
  have Y2 : sbw rs (fun T => Frs (N + 1) S0 (a :: T)) = trN N rs := sbw_congr (rs := rs) (P := fun T => Frs (N + 1) S0 (a :: T)) (fun T hT => (eR f (by omega) _).trans ((Frs.cons T ha (S1_self f) S0f (by omega) (by omega)).trans ((Frs.lone (hsub T hT) S0f).trans (eR' f hf T).symm)))
  have Y3 : sbw rs (fun T => Frs (N + 1) S0 (a :: b :: T)) = spN N rs f t := by
    rw [spN_ne hft]
    have hb' : Joins2 b N t := Or.symm hb
    have q : insS (S1 f) N t = false := by
      unfold insS
      rw [S1_ne hft]
      have : (t == N) = false := by simpa using (show t ≠ N by omega)
      rw [this]; rfl
    have e : insS (insS (S1 f) N) t = insS (S2 f t) N := by
      funext k
      unfold S2 insS
      rw [Bool.or_assoc, Bool.or_comm (k == N), ← Bool.or_assoc]
    exact sbw_congr (rs := rs) (P := fun T => Frs (N + 1) S0 (a :: b :: T)) (fun T hT => (eR f (by omega) _).trans ((Frs.cons (b :: T) ha (S1_self f) S0f (by omega) (by omega)).trans ((Frs.cons T hb' (by unfold insS; simp) q (by omega) (by omega)).trans (by rw [e]; exact Frs.lone (hsub T hT) s2))))
  obtain ⟨X, hX⟩ : ∃ X, spN N rs f t = X := ⟨_, rfl⟩
  obtain ⟨Y, hY⟩ : ∃ X, trN N rs = X := ⟨_, rfl⟩
  rw [hX] at X1 X2 Y3
  rw [hY] at Y1 Y2
  rw [hX, hY]
  constructor
  · rw [spN_ne hft]
    simp only [sbw]
    rw [X0, X1, X2, X3, hag, hbg]
    rw [Int.mul_zero, Int.add_zero, Int.zero_add, ← Int.add_mul]
    congr 1; omega
  · unfold trN
    simp only [sbw]
    rw [Y0, Y1, Y2, Y3, hag, hbg]
    rw [Int.zero_add, Int.mul_add, Int.mul_add (4 * g)]
    have e1 : 4 * g * Y = 2 * g * Y + 2 * g * Y := by rw [← Int.add_mul]; congr 1; omega
    have e2 : 4 * g * (g * X) = 2 * g * (2 * g * X) := by
      rw [show (4 : Int) * g = 2 * g * 2 by omega, Int.mul_assoc (2 * g) 2, Int.mul_assoc 2 g X]
    omega
end Go.Proofs.YtenllemaccacgaaGreatDoor
