/-
  How often a simple closed way winds around its own corners: to the left of the way it is one number. No function of the program is named.
-/
import Derived.Test.YtegcjdcinebleaaYj
namespace Poly

/-- a closed way whose sides meet in corners alone -/
structure Way (P : Nat → P2) (n : Nat) : Prop where
  n3 : 3 ≤ n
  per : ∀ i, P (i + n) = P i
  far : ∀ k t, 2 ≤ t → t + 2 ≤ n → meet (P k) (P (k + 1)) (P (k + t)) (P (k + t + 1)) = false
  turn : ∀ k, onP (P k) (P (k + 1)) (P (k + 2)) = false ∧ onP (P (k + 1)) (P (k + 2)) (P k) = false

theorem way_of {L : List P2} (h3 : 3 ≤ L.length) (h : simple L = true) : Way (cy L) L.length := by
  have hf := (simple_far h3).1 h
  have hmod : ∀ i j, cy L (i + j) = cy L (i % L.length + j) := fun i j => by
    rw [← cy_mod (i + j), ← cy_mod (i % L.length + j), Nat.mod_add_mod]
  have hm : ∀ i, i % L.length < L.length := fun i => Nat.mod_lt i (by omega)
  refine ⟨h3, cy_add, fun k t h2 hn => ?_, fun k => ?_⟩
  · have a := hm k
    rw [show cy L k = cy L (k % L.length) from (cy_mod k).symm, hmod k 1, hmod k t, show k + t + 1 = k + (t + 1) from by omega, hmod k (t + 1)]
    generalize k % L.length = i at *
    by_cases hw : i + t < L.length
    · exact far2_any hf a hw (by omega) (by omega) (by omega) (by omega) (by omega)
    · rw [cy_n (i + t) (by omega), cy_n (i + (t + 1)) (by omega), show i + (t + 1) - L.length = i + t - L.length + 1 from by omega]
      exact far2_any hf a (by omega) (by omega) (by omega) (by omega) (by omega) (by omega)
  · have := hf.1 (k % L.length) (hm k)
    unfold fold at this
    rw [← hmod k 1, ← hmod k 2, cy_mod k] at this
    simpa using this

variable {P : Nat → P2} {n : Nat}
/-- how often the way winds around a point -/
def wn (P : Nat → P2) (n : Nat) (x : P2) : Int := sumF (fun j => chi (sb (P j) x) (sb (P (j + 1)) x)) n
def c4 (P : Nat → P2) (x y : P2) (j : Nat) : Int := chi4 (sb (P j) x) (sb (P (j + 1)) x) (sb (P (j + 1)) y) (sb (P j) y)
theorem wn_to (P : Nat → P2) (x y : P2) : ∀ m : Nat, sumF (c4 P x y) m = wn P m x - wn P m y + (chi (sb (P m) x) (sb (P m) y) - chi (sb (P 0) x) (sb (P 0) y))
  | 0 => by show (0 : Int) = 0 - 0 + _; omega
  | m + 1 => by
    show sumF (c4 P x y) m + c4 P x y m = wn P m x + chi (sb (P m) x) (sb (P (m + 1)) x) - (wn P m y + chi (sb (P m) y) (sb (P (m + 1)) y)) + _
    rw [wn_to P x y m]
    have a1 := chi_anti (sb (P m) x) (sb (P m) y)
    have a2 := chi_anti (sb (P m) y) (sb (P (m + 1)) y)
    unfold c4 chi4
    omega
theorem wn_diff (h : ∀ i, P (i + n) = P i) (x y : P2) : wn P n x - wn P n y = sumF (c4 P x y) n := by
  have := wn_to P x y n
  have e := h 0
  rw [Nat.zero_add] at e
  rw [e] at this
  omega
theorem chi_zl (v : P2) (u : P2) (h : u = (0, 0)) : chi u v = 0 := by
  subst h; unfold chi cv; simp
theorem chi_zr (u : P2) (v : P2) (h : v = (0, 0)) : chi u v = 0 := by
  subst h; unfold chi cv; simp
theorem chi_line {u v : P2} (h : cv u v = 0) : chi u v = 0 := by
  unfold chi; rw [h]; simp
/-- the third side of a triangle with a corner at the origin -/
theorem chi_tri {u v s : P2} (h1 : s.1 = u.1 + v.1) (h2 : s.2 = u.2 + v.2) : chi u s + chi s v = chi u v := by
  have e1 : cv u s = cv u v := by unfold cv; rw [h1, h2]; grind
  have e2 : cv s v = cv u v := by unfold cv; rw [h1, h2]; grind
  unfold chi
  rw [e1, e2, h2]
  generalize cv u v = c
  repeat' split
  all_goals omega
/-- the upper half of the plane, with the half line to the west -/
def psi (u : P2) : Int := if 0 < u.2 ∨ (u.2 = 0 ∧ u.1 < 0) then 1 else 0
def ng (u : P2) : P2 := (-u.1, -u.2)
theorem chi_psi0 {u v : P2} (h : cv u v ≠ 0) : chi u v - chi (ng u) (ng v) = psi v - psi u := by
  have e : cv (ng u) (ng v) = cv u v := by unfold cv ng; simp only; grind
  obtain ⟨x, a⟩ := u
  obtain ⟨y, b⟩ := v
  have s1 : a = 0 → 0 < b → (0 < x → 0 < cv (x, a) (y, b)) ∧ (x < 0 → cv (x, a) (y, b) < 0) ∧ (x = 0 → cv (x, a) (y, b) = 0) := fun h0 hb => by
    subst h0; refine ⟨fun g => ?_, fun g => ?_, fun g => ?_⟩ <;> (unfold cv; simp only)
    · have := mul_sp g hb; omega
    · have := mul_ns g hb; omega
    · subst g; omega
  have s2 : a = 0 → b < 0 → (0 < x → cv (x, a) (y, b) < 0) ∧ (x < 0 → 0 < cv (x, a) (y, b)) ∧ (x = 0 → cv (x, a) (y, b) = 0) := fun h0 hb => by
    subst h0; refine ⟨fun g => ?_, fun g => ?_, fun g => ?_⟩ <;> (unfold cv; simp only)
    · have := mul_sn g hb; omega
    · have := mul_ss g hb; omega
    · subst g; omega
  have s3 : b = 0 → 0 < a → (0 < y → cv (x, a) (y, b) < 0) ∧ (y < 0 → 0 < cv (x, a) (y, b)) ∧ (y = 0 → cv (x, a) (y, b) = 0) := fun h0 hb => by
    subst h0; refine ⟨fun g => ?_, fun g => ?_, fun g => ?_⟩ <;> (unfold cv; simp only)
    · have := mul_sp hb g; omega
    · have := mul_sn hb g; omega
    · subst g; omega
  have s4 : b = 0 → a < 0 → (0 < y → 0 < cv (x, a) (y, b)) ∧ (y < 0 → cv (x, a) (y, b) < 0) ∧ (y = 0 → cv (x, a) (y, b) = 0) := fun h0 hb => by
    subst h0; refine ⟨fun g => ?_, fun g => ?_, fun g => ?_⟩ <;> (unfold cv; simp only)
    · have := mul_ns hb g; omega
    · have := mul_ss hb g; omega
    · subst g; omega
  have s5 : a = 0 → b = 0 → cv (x, a) (y, b) = 0 := fun h0 h1 => by subst h0 h1; unfold cv; simp only; omega
  unfold chi psi
  rw [e]
  show _ - (if -a ≤ 0 ∧ 0 < -b then _ else if -b ≤ 0 ∧ 0 < -a then _ else _) = _
  simp only
  generalize cv (x, a) (y, b) = c at *
  repeat' split
  all_goals omega
theorem chi_psi {u v : P2} (h : cv u v ≠ 0 ∨ psi u = psi v) : chi u v - chi (ng u) (ng v) = psi v - psi u := by
  by_cases hz : cv u v = 0
  · have e : cv (ng u) (ng v) = cv u v := by unfold cv ng; simp only; grind
    rcases h with h | h
    · exact absurd hz h
    · rw [chi_line hz, chi_line (by rw [e]; exact hz), h]; omega
  · exact chi_psi0 hz
theorem onP_mk {a b c : P2} (h : crs a b c = 0) (h1 : min a.1 b.1 ≤ c.1 ∧ c.1 ≤ max a.1 b.1) (h2 : min a.2 b.2 ≤ c.2 ∧ c.2 ≤ max a.2 b.2) : onP a b c = true := by
  unfold crs at h
  unfold onP Pt.onB
  exact decide_eq_true ⟨h, h1.1, h1.2, h2.1, h2.2⟩
theorem onP_use {a b c : P2} (h : onP a b c = true) : crs a b c = 0 ∧ (min a.1 b.1 ≤ c.1 ∧ c.1 ≤ max a.1 b.1) ∧ (min a.2 b.2 ≤ c.2 ∧ c.2 ≤ max a.2 b.2) := by
  unfold onP Pt.onB at h
  have := of_decide_eq_true h
  unfold crs
  exact ⟨this.1, ⟨this.2.1, this.2.2.1⟩, this.2.2.2.1, this.2.2.2.2⟩
theorem fold_short {a b x y : Int} (ha : 0 < a) (hb : b < 0) (hs : 0 ≤ a + b) (h : x * b = a * y) : (0 ≤ x → y ≤ 0 ∧ 0 ≤ x + y) ∧ (x ≤ 0 → 0 ≤ y ∧ x + y ≤ 0) := by
  have e : a * (x + y) = x * (a + b) := by grind
  refine ⟨fun hx => ⟨?_, ?_⟩, fun hx => ⟨?_, ?_⟩⟩
  · rcases Int.lt_or_le 0 y with g | g
    · have := mul_sp ha g; have := mul_np hx (Int.le_of_lt hb); omega
    · exact g
  · exact pos_of ha (by rw [e]; exact mul_nn hx hs)
  · exact pos_of ha (by rw [← h]; exact mul_nnp hx (Int.le_of_lt hb))
  · rcases Int.lt_or_le 0 (x + y) with g | g
    · have := mul_sp ha g; have := mul_pn hx hs; omega
    · exact g
theorem fold_long {a b x y : Int} (ha : 0 < a) (hb : b < 0) (hs : a + b ≤ 0) (h : x * b = a * y) : (0 ≤ x → x + y ≤ 0) ∧ (x ≤ 0 → 0 ≤ x + y) := by
  have := fold_short (a := -b) (b := -a) (x := -y) (y := -x) (by omega) (by omega) (by omega) (by grind)
  refine ⟨fun hx => ?_, fun hx => ?_⟩
  · have hy : y ≤ 0 := by
      rcases Int.lt_or_le 0 y with g | g
      · have := mul_sp ha g; have := mul_np hx (Int.le_of_lt hb); omega
      · exact g
    have := this.1 (by omega); omega
  · have hy : 0 ≤ y := pos_of ha (by rw [← h]; exact mul_nnp hx (Int.le_of_lt hb))
    have := this.2 (by omega); omega
theorem turn_psi {A B C : P2} (h1 : onP A B C = false) (h2 : onP B C A = false) : cv (sb B A) (sb C B) ≠ 0 ∨ psi (sb B A) = psi (sb C B) := by
  by_cases hc : cv (sb B A) (sb C B) = 0
  · right
    apply Decidable.byContradiction
    intro hp
    have k1 : crs A B C = 0 := by rw [← hc]; unfold crs Pt.cr cv sb; grind
    have k2 : crs B C A = 0 := by rw [← hc]; unfold crs Pt.cr cv sb; grind
    have n1 : ¬ ((min A.1 B.1 ≤ C.1 ∧ C.1 ≤ max A.1 B.1) ∧ (min A.2 B.2 ≤ C.2 ∧ C.2 ≤ max A.2 B.2)) := fun g => by rw [onP_mk k1 g.1 g.2] at h1; cases h1
    have n2 : ¬ ((min B.1 C.1 ≤ A.1 ∧ A.1 ≤ max B.1 C.1) ∧ (min B.2 C.2 ≤ A.2 ∧ A.2 ≤ max B.2 C.2)) := fun g => by rw [onP_mk k2 g.1 g.2] at h2; cases h2
    have hx : (B.1 - A.1) * (C.2 - B.2) = (B.2 - A.2) * (C.1 - B.1) := by unfold cv sb at hc; simp only at hc; omega
    obtain ⟨x, hx'⟩ : ∃ x, B.1 - A.1 = x := ⟨_, rfl⟩
    obtain ⟨a, ha'⟩ : ∃ x, B.2 - A.2 = x := ⟨_, rfl⟩
    obtain ⟨y, hy'⟩ : ∃ x, C.1 - B.1 = x := ⟨_, rfl⟩
    obtain ⟨b, hb'⟩ : ∃ x, C.2 - B.2 = x := ⟨_, rfl⟩
    unfold psi sb at hp
    simp only at hp
    rw [hx', ha', hy', hb'] at hp
    rw [hx', ha', hy', hb'] at hx
    rcases Int.lt_trichotomy a 0 with ga | ga | ga
    · rcases Int.lt_trichotomy b 0 with gb | gb | gb
      · rw [if_neg (by omega), if_neg (by omega)] at hp; exact hp rfl
      · subst gb
        have : y = 0 := by
          rcases Int.lt_trichotomy y 0 with g | g | g
          · have := mul_ss ga g; omega
          · exact g
          · have := mul_ns ga g; omega
        omega
      · rcases Int.le_total 0 (a + b) with gs | gs
        · have f := fold_long (a := -a) (b := -b) (x := -x) (y := -y) (by omega) (by omega) (by omega) (by grind)
          rcases Int.le_total 0 x with g | g
          · have := f.2 (by omega); omega
          · have := f.1 (by omega); omega
        · have f := fold_short (a := -a) (b := -b) (x := -x) (y := -y) (by omega) (by omega) (by omega) (by grind)
          rcases Int.le_total 0 x with g | g
          · have := f.2 (by omega); omega
          · have := f.1 (by omega); omega
    · subst ga
      rcases Int.lt_trichotomy b 0 with gb | gb | gb
      · have : x = 0 := by
          rcases Int.lt_trichotomy x 0 with g | g | g
          · have := mul_ss g gb; omega
          · exact g
          · have := mul_sn g gb; omega
        omega
      · subst gb
        by_cases g1 : x < 0 <;> by_cases g2 : y < 0
        · rw [if_pos (by omega), if_pos (by omega)] at hp; exact hp rfl
        · omega
        · omega
        · rw [if_neg (by omega), if_neg (by omega)] at hp; exact hp rfl
      · have : x = 0 := by
          rcases Int.lt_trichotomy x 0 with g | g | g
          · have := mul_ns g gb; omega
          · exact g
          · have := mul_sp g gb; omega
        omega
    · rcases Int.lt_trichotomy b 0 with gb | gb | gb
      · rcases Int.le_total 0 (a + b) with gs | gs
        · have f := fold_short ga gb gs hx
          rcases Int.le_total 0 x with g | g
          · have := f.1 g; omega
          · have := f.2 g; omega
        · have f := fold_long ga gb gs hx
          rcases Int.le_total 0 x with g | g
          · have := f.1 g; have hy : y ≤ 0 := by omega
            omega
          · have := f.2 g; omega
      · subst gb
        have : y = 0 := by
          rcases Int.lt_trichotomy y 0 with g | g | g
          · have := mul_sn ga g; omega
          · exact g
          · have := mul_sp ga g; omega
        omega
      · rw [if_pos (by omega), if_pos (by omega)] at hp; exact hp rfl
  · exact .inl hc
/-- the side with a number -/
def ed (P : Nat → P2) (k : Nat) : P2 := sb (P (k + 1)) (P k)
theorem sum_ends {F : Nat → Int} {n : Nat} (h3 : 3 ≤ n) (h0 : F 0 = 0) (hf : ∀ i, 2 ≤ i → i + 2 ≤ n → F i = 0) : sumF F n = F 1 + F (n - 1) := by
  obtain ⟨r, rfl⟩ : ∃ r, n = 2 + r + 1 := ⟨n - 3, by omega⟩
  show sumF F (2 + r) + F (2 + r) = _
  rw [sum_split, sum_none (fun i hi => hf (2 + i) (by omega) (by omega))]
  show (0 + F 0 + F 1) + 0 + F (2 + r) = F 1 + F (2 + r + 1 - 1)
  rw [h0]
  simp
theorem cv_sub (a b p : P2) : cv (sb a p) (sb b p) = crs a b p := (crs_cv a b p).symm
theorem near (hP : Way P n) (k : Nat) (x : P2) (hx : crs (P (k + 1)) (P (k + 2)) x = 0) (hf : ∀ t, 2 ≤ t → t + 2 ≤ n → c4 P x (P (k + 2)) (k + 1 + t) = 0) :
    wn P n x - wn P n (P (k + 2)) = chi (sb (P (k + 2)) x) (ed P (k + 2)) + c4 P x (P (k + 2)) k := by
  have hper : ∀ i, c4 P x (P (k + 2)) (i + n) = c4 P x (P (k + 2)) i := fun i => by
    unfold c4
    rw [hP.per, show i + n + 1 = i + 1 + n from by omega, hP.per]
  have h3 := hP.n3
  rw [wn_diff hP.per, ← sum_shift hper (k + 1), sum_ends (F := fun i => c4 P x (P (k + 2)) (i + (k + 1))) h3 ?_ ?_]
  · congr 1
    · show c4 P x (P (k + 2)) (1 + (k + 1)) = _
      rw [show 1 + (k + 1) = k + 2 from by omega]
      unfold c4 chi4 ed
      rw [chi_zl _ (sb (P (k + 2)) (P (k + 2))) (by unfold sb; simp), chi_zr _ (sb (P (k + 2)) (P (k + 2))) (by unfold sb; simp)]
      have := chi_tri (u := sb (P (k + 2)) x) (v := sb (P (k + 2 + 1)) (P (k + 2))) (s := sb (P (k + 2 + 1)) x) (by unfold sb; simp only; omega) (by unfold sb; simp only; omega)
      omega
    · show c4 P x (P (k + 2)) (n - 1 + (k + 1)) = _
      rw [show n - 1 + (k + 1) = k + n from by omega, hper]
  · show c4 P x (P (k + 2)) (0 + (k + 1)) = 0
    rw [Nat.zero_add]
    unfold c4 chi4
    rw [show k + 1 + 1 = k + 2 from rfl]
    rw [chi_line (by rw [cv_sub]; exact hx), chi_zr _ (sb (P (k + 2)) (P (k + 2))) (by unfold sb; simp), chi_zl _ (sb (P (k + 2)) (P (k + 2))) (by unfold sb; simp), chi_line (u := sb (P (k + 1)) (P (k + 2)))]
    · rfl
    · rw [← hx]; unfold cv sb crs Pt.cr; grind
  · intro i h2 hi
    show c4 P x (P (k + 2)) (i + (k + 1)) = 0
    rw [Nat.add_comm i]
    exact hf i h2 hi
/-- how often the way winds around what lies to the left of a corner -/
def lw (P : Nat → P2) (n k : Nat) : Int := wn P n (P (k + 1)) + chi (ed P k) (ed P (k + 1)) + psi (ed P k)
theorem far_c4 (hP : Way P n) (k : Nat) (t : Nat) (h2 : 2 ≤ t) (hn : t + 2 ≤ n) : c4 P (P (k + 1)) (P (k + 2)) (k + 1 + t) = 0 := cell (hP.far (k + 1) t h2 hn)
theorem lw_step (hP : Way P n) (k : Nat) : lw P n (k + 1) = lw P n k := by
  have h := near hP k (P (k + 1)) (by unfold crs Pt.cr; grind) (far_c4 hP k)
  have hc : c4 P (P (k + 1)) (P (k + 2)) k = - chi (ng (ed P k)) (ng (ed P (k + 1))) := by
    unfold c4 chi4
    rw [chi_zl _ (sb (P (k + 1)) (P (k + 1))) (by unfold sb; simp), chi_zr _ (sb (P (k + 1)) (P (k + 1))) (by unfold sb; simp)]
    have t := chi_tri (u := ng (ed P k)) (v := ng (ed P (k + 1))) (s := sb (P k) (P (k + 2))) (by unfold sb ng ed sb; rw [show k + 1 + 1 = k + 2 from rfl]; simp only; omega) (by unfold sb ng ed sb; rw [show k + 1 + 1 = k + 2 from rfl]; simp only; omega)
    have e1 : sb (P k) (P (k + 1)) = ng (ed P k) := by unfold sb ng ed sb; simp only; congr 1 <;> omega
    have e2 : sb (P (k + 1)) (P (k + 2)) = ng (ed P (k + 1)) := by unfold sb ng ed sb; rw [show k + 1 + 1 = k + 2 from rfl]; simp only; congr 1 <;> omega
    rw [e1, e2]
    have a1 := chi_anti (ng (ed P (k + 1))) (sb (P k) (P (k + 2)))
    have a2 := chi_anti (sb (P k) (P (k + 2))) (ng (ed P k))
    omega
  have hp := chi_psi (turn_psi (hP.turn k).1 (hP.turn k).2)
  have e1 : sb (P (k + 1)) (P k) = ed P k := rfl
  have e2 : sb (P (k + 2)) (P (k + 1)) = ed P (k + 1) := rfl
  rw [e1, e2] at hp
  rw [hc, e2] at h
  unfold lw
  rw [show k + 1 + 1 = k + 2 from rfl]
  omega
theorem lw_all (hP : Way P n) : ∀ k, lw P n k = lw P n 0
  | 0 => rfl
  | k + 1 => (lw_step hP k).trans (lw_all hP k)
end Poly
