/-
  Determinants of whole numbers: what is linear and what alternates, that there is one such function, rows and columns exchanged, products, and columns replaced. No function of the program is named.
-/
import Derived.WalkKit
namespace Go.Proofs.Ythpfhbogpnhgmaa
set_option linter.unusedVariables false

/-- the sum of the first n -/
def smn : Nat → (Nat → Int) → Int
  | 0, _ => 0
  | n + 1, f => smn n f + f n
theorem sm_congr {n : Nat} {f g : Nat → Int} (h : ∀ i, i < n → f i = g i) : smn n f = smn n g := by
  induction n with
  | zero => rfl
  | succ n ih => simp only [smn]; rw [ih (fun i hi => h i (by omega)), h n (by omega)]
theorem sm_zero {n : Nat} {f : Nat → Int} (h : ∀ i, i < n → f i = 0) : smn n f = 0 := by
  induction n with
  | zero => rfl
  | succ n ih => simp only [smn]; rw [ih (fun i hi => h i (by omega)), h n (by omega)]; rfl
theorem sm_add (n : Nat) (f g : Nat → Int) : smn n (fun i => f i + g i) = smn n f + smn n g := by
  induction n with
  | zero => rfl
  | succ n ih => simp only [smn]; rw [ih]; omega
theorem sm_mul (n : Nat) (c : Int) (f : Nat → Int) : smn n (fun i => c * f i) = c * smn n f := by
  induction n with
  | zero => simp [smn]
  | succ n ih => simp only [smn]; rw [ih, Int.mul_add]
theorem sm_lin (n : Nat) (x y : Int) (f g : Nat → Int) : smn n (fun i => x * f i + y * g i) = x * smn n f + y * smn n g := by rw [sm_add, sm_mul, sm_mul]
theorem sm_neg (n : Nat) (f : Nat → Int) : smn n (fun i => -f i) = -smn n f := by
  have := sm_mul n (-1) f
  rw [sm_congr (g := fun i => -1 * f i) (fun i _ => by omega), this]; omega
/-- but one of them is 0 -/
theorem sm_one {n : Nat} {f : Nat → Int} {k : Nat} (hk : k < n) (h : ∀ i, i < n → i ≠ k → f i = 0) : smn n f = f k := by
  induction n with
  | zero => omega
  | succ n ih =>
    simp only [smn]
    by_cases e : k = n
    · subst e; rw [sm_zero (fun i hi => h i (by omega) (by omega))]; omega
    · rw [ih (by omega) (fun i hi hne => h i (by omega) hne), h n (by omega) (Ne.symm e)]; omega
/-- but two of them are 0 -/
theorem sm_two {n : Nat} {f : Nat → Int} {j k : Nat} (hj : j < k) (hk : k < n) (h : ∀ i, i < n → i ≠ j → i ≠ k → f i = 0) : smn n f = f j + f k := by
  induction n with
  | zero => omega
  | succ n ih =>
    simp only [smn]
    by_cases e : k = n
    · subst e; rw [sm_one hj (fun i hi hne => h i (by omega) hne (by omega))]
    · rw [ih (by omega) (fun i hi h1 h2 => h i (by omega) h1 h2), h n (by omega) (by omega) (Ne.symm e)]; omega
/-- the first one apart -/
theorem sm_head (n : Nat) (f : Nat → Int) : smn (n + 1) f = f 0 + smn n (fun i => f (i + 1)) := by
  induction n with
  | zero => simp [smn]
  | succ n ih => rw [smn, ih]; simp only [smn]; omega
theorem sm_swap (n m : Nat) (f : Nat → Nat → Int) : smn n (fun i => smn m (fun j => f i j)) = smn m (fun j => smn n (fun i => f i j)) := by
  induction n with
  | zero => simp only [smn]; exact (sm_zero (fun _ _ => rfl)).symm
  | succ n ih => simp only [smn]; rw [ih, ← sm_add]

/-- the sign of an index -/
def sgj (j : Nat) : Int := if j % 2 = 0 then 1 else -1
theorem sg_succ (j : Nat) : sgj (j + 1) = -sgj j := by unfold sgj; split <;> split <;> omega
theorem sg_zero : sgj 0 = 1 := rfl
theorem sg_sq (j : Nat) : sgj j * sgj j = 1 := by unfold sgj; split <;> rfl
/-- the columns but one -/
def skip (j k : Nat) : Nat := if k < j then k else k + 1
theorem skip_ne (j k : Nat) : skip j k ≠ j := by unfold skip; split <;> omega
theorem skip_lt {n j k : Nat} (hk : k < n) (hj : j < n + 1) : skip j k < n + 1 := by unfold skip; split <;> omega
abbrev Mx := Nat → Nat → Int
/-- without the first row and a column -/
def mnr (a : Mx) (j : Nat) : Mx := fun i k => a (i + 1) (skip j k)
/-- the determinant of the first n rows and columns -/
def det : Nat → Mx → Int
  | 0, _ => 1
  | n + 1, a => smn (n + 1) (fun j => sgj j * a 0 j * det n (mnr a j))
/-- a column replaced -/
def upc (a : Mx) (c : Nat) (v : Nat → Int) : Mx := fun i j => if j = c then v i else a i j
theorem upd_at (a : Mx) (c : Nat) (v : Nat → Int) (i : Nat) : upc a c v i c = v i := if_pos rfl
theorem upd_ne {a : Mx} {c : Nat} {v : Nat → Int} {i j : Nat} (h : j ≠ c) : upc a c v i j = a i j := if_neg h
theorem det_congr {n : Nat} : ∀ {a b : Mx}, (∀ i j, i < n → j < n → a i j = b i j) → det n a = det n b := by
  induction n with
  | zero => intros; rfl
  | succ n ih =>
    intro a b h
    simp only [det]
    refine sm_congr (fun j hj => ?_)
    rw [h 0 j (by omega) hj, ih (a := mnr a j) (b := mnr b j) (fun i k hi hk => h (i + 1) (skip j k) (by omega) (skip_lt hk hj))]
/-- what alternates and is linear in the columns -/
structure Alt (n : Nat) (F : Mx → Int) : Prop where
  congr : ∀ a b : Mx, (∀ i j, i < n → j < n → a i j = b i j) → F a = F b
  lin : ∀ (a : Mx) (c : Nat) (u v : Nat → Int) (x y : Int), c < n → F (upc a c (fun i => x * u i + y * v i)) = x * F (upc a c u) + y * F (upc a c v)
  alt : ∀ (a : Mx) (p q : Nat), p < q → q < n → (∀ i, i < n → a i p = a i q) → F a = 0
/-- where a column is after another one has been left out -/
def bck (j c : Nat) : Nat := if c < j then c else c - 1
theorem skip_back {j c : Nat} (h : c ≠ j) : skip j (bck j c) = c := by
  unfold skip bck
  by_cases h1 : c < j
  · rw [if_pos h1, if_pos h1]
  · rw [if_neg h1, if_neg (by omega)]; omega
theorem back_lt {n j c : Nat} (h : c ≠ j) (hc : c < n + 1) (hj : j < n + 1) : bck j c < n := by unfold bck; split <;> omega
theorem skip_eq {j c k : Nat} (h : c ≠ j) : skip j k = c ↔ k = bck j c := by
  unfold skip bck
  constructor
  · intro e; split at e <;> split <;> omega
  · intro e; split at e <;> split <;> omega
theorem mnr_upd_same (a : Mx) (c : Nat) (v : Nat → Int) : mnr (upc a c v) c = mnr a c := by
  funext i k
  exact upd_ne (skip_ne c k)
theorem mnr_upd {a : Mx} {c j : Nat} {v : Nat → Int} (h : c ≠ j) : mnr (upc a c v) j = upc (mnr a j) (bck j c) (fun i => v (i + 1)) := by
  funext i k
  by_cases e : k = bck j c
  · subst e
    rw [upd_at]
    show upc a c v (i + 1) (skip j (bck j c)) = _
    rw [skip_back h, upd_at]
  · rw [upd_ne e]
    exact upd_ne (fun h' => e ((skip_eq h).1 h'))
theorem det_lin {n : Nat} : ∀ (a : Mx) (c : Nat) (u v : Nat → Int) (x y : Int), c < n → det n (upc a c (fun i => x * u i + y * v i)) = x * det n (upc a c u) + y * det n (upc a c v) := by
  induction n with
  | zero => intro _ _ _ _ _ _ h; omega
  | succ n ih =>
    intro a c u v x y hc
    simp only [det]
    rw [← sm_lin]
    refine sm_congr (fun j hj => ?_)
    by_cases e : c = j
    · subst e
      rw [mnr_upd_same, mnr_upd_same, mnr_upd_same, upd_at, upd_at, upd_at]
      generalize det n (mnr a c) = d
      generalize sgj c = s
      rw [Int.mul_add, Int.add_mul]
      congr 1 <;> simp only [Int.mul_left_comm, Int.mul_comm, Int.mul_assoc]
    · rw [mnr_upd e, mnr_upd e, mnr_upd e, upd_ne (Ne.symm e), upd_ne (Ne.symm e), upd_ne (Ne.symm e), ih _ _ _ _ _ _ (back_lt e hc hj)]
      rw [Int.mul_add]
      congr 1 <;> simp only [Int.mul_left_comm, Int.mul_comm, Int.mul_assoc]
/-- two neighboring columns that are equal -/
theorem det_near {n : Nat} : ∀ (a : Mx) (c : Nat), c + 1 < n → (∀ i, i < n → a i c = a i (c + 1)) → det n a = 0 := by
  induction n with
  | zero => intro _ _ h; omega
  | succ n ih =>
    intro a c hc h
    simp only [det]
    rw [sm_two (j := c) (k := c + 1) (by omega) hc (fun j hj h1 h2 => ?_)]
    · have e : det n (mnr a c) = det n (mnr a (c + 1)) := det_congr (fun i k hi hk => by
        show a (i + 1) (skip c k) = a (i + 1) (skip (c + 1) k)
        by_cases e : k = c
        · subst e
          rw [show skip k k = k + 1 from if_neg (by omega), show skip (k + 1) k = k from if_pos (by omega)]
          exact (h (i + 1) (by omega)).symm
        · have : skip c k = skip (c + 1) k := by unfold skip; split <;> split <;> omega
          rw [this])
      rw [e, h 0 (by omega), sg_succ]
      rw [Int.neg_mul, Int.neg_mul]; omega
    · have hb : bck j (c + 1) = bck j c + 1 := by unfold bck; split <;> split <;> omega
      rw [ih (mnr a j) (bck j c) (by rw [← hb]; exact back_lt (Ne.symm h2) hc hj) (fun i hi => by
        show a (i + 1) (skip j (bck j c)) = a (i + 1) (skip j (bck j c + 1))
        rw [← hb, skip_back (Ne.symm h1), skip_back (Ne.symm h2)]
        exact h (i + 1) (by omega)), Int.mul_zero]
/-- a column put bck -/
theorem upd_self (a : Mx) (c : Nat) : upc a c (fun i => a i c) = a := by
  funext i j
  by_cases e : j = c
  · subst e; exact upd_at ..
  · exact upd_ne e
theorem upd_comm {a : Mx} {c d : Nat} {u v : Nat → Int} (h : c ≠ d) : upc (upc a c u) d v = upc (upc a d v) c u := by
  funext i j
  by_cases e : j = d
  · subst e; rw [upd_at, upd_ne (Ne.symm h), upd_at]
  · rw [upd_ne e]
    by_cases e' : j = c
    · subst e'; rw [upd_at, upd_at]
    · rw [upd_ne e', upd_ne e', upd_ne e]
theorem upd_upd (a : Mx) (c : Nat) (u v : Nat → Int) : upc (upc a c u) c v = upc a c v := by
  funext i j
  by_cases e : j = c
  · subst e; rw [upd_at, upd_at]
  · rw [upd_ne e, upd_ne e, upd_ne e]
/-- two columns exchanged -/
def swc (a : Mx) (p q : Nat) : Mx := upc (upc a p (fun i => a i q)) q (fun i => a i p)
theorem lin_add {n : Nat} {F : Mx → Int} (hl : ∀ (a : Mx) (c : Nat) (u v : Nat → Int) (x y : Int), c < n → F (upc a c (fun i => x * u i + y * v i)) = x * F (upc a c u) + y * F (upc a c v)) (a : Mx) {c : Nat} (hc : c < n) (u v : Nat → Int) : F (upc a c (fun i => u i + v i)) = F (upc a c u) + F (upc a c v) := by
  have := hl a c u v 1 1 hc
  simp only [Int.one_mul] at this
  exact this
/-- where two equal columns give 0, exchanged ones give the opposite -/
theorem lin_swap {n : Nat} {F : Mx → Int} (hl : ∀ (a : Mx) (c : Nat) (u v : Nat → Int) (x y : Int), c < n → F (upc a c (fun i => x * u i + y * v i)) = x * F (upc a c u) + y * F (upc a c v)) (p q : Nat) (hp : p < n) (hq : q < n) (hpq : p ≠ q)
    (hz : ∀ a : Mx, (∀ i, i < n → a i p = a i q) → F a = 0) (a : Mx) : F (swc a p q) = -F a := by
  have h1 := hz (upc (upc a p (fun i => a i p + a i q)) q (fun i => a i p + a i q)) (fun i _ => by rw [upd_at, upd_ne hpq, upd_at])
  rw [lin_add hl _ hq, upd_comm hpq, upd_comm hpq, lin_add hl _ hp, lin_add hl _ hp] at h1
  have z1 : F (upc (upc a q (fun i => a i p)) p (fun i => a i p)) = 0 := hz _ (fun i _ => by rw [upd_at, upd_ne (Ne.symm hpq), upd_at])
  have z2 : F (upc (upc a q (fun i => a i q)) p (fun i => a i q)) = 0 := hz _ (fun i _ => by rw [upd_at, upd_ne (Ne.symm hpq), upd_at])
  have e1 : upc (upc a q (fun i => a i p)) p (fun i => a i q) = swc a p q := (upd_comm hpq).symm
  have e2 : upc (upc a q (fun i => a i q)) p (fun i => a i p) = a := by rw [upd_self a q, upd_self]
  rw [z1, z2, e1, e2] at h1
  omega
theorem det_alt {n : Nat} : ∀ (d : Nat) (a : Mx) (p : Nat), p + 1 + d < n → (∀ i, i < n → a i p = a i (p + 1 + d)) → det n a = 0 := by
  intro d
  induction d with
  | zero => intro a p h he; exact det_near a p h he
  | succ d ih =>
    intro a p h he
    have h1 := lin_swap (F := det n) det_lin (p + 1 + d) (p + 1 + d + 1) (by omega) (by omega) (by omega) (fun b hb => det_near b (p + 1 + d) (by omega) hb) a
    have h2 := ih (swc a (p + 1 + d) (p + 1 + d + 1)) p (by omega) (fun i hi => by
      unfold swc
      rw [upd_ne (by omega), upd_ne (by omega), upd_ne (show p + 1 + d ≠ p + 1 + d + 1 by omega), upd_at]
      exact he i hi)
    omega
theorem det_is (n : Nat) : Alt n (det n) := ⟨fun a b h => det_congr h, fun a c u v x y h => det_lin a c u v x y h, fun a p q hpq hq he => det_alt (q - p - 1) a p (by omega) (fun i hi => by rw [show p + 1 + (q - p - 1) = q by omega]; exact he i hi)⟩
/-- the unit matrix -/
def one : Mx := fun i j => if i = j then 1 else 0
theorem det_one (n : Nat) : det n one = 1 := by
  induction n with
  | zero => rfl
  | succ n ih =>
    simp only [det]
    rw [sm_one (k := 0) (by omega) (fun j hj hne => by
      rw [show one 0 j = 0 from if_neg (by omega), Int.mul_zero, Int.zero_mul])]
    have : mnr one 0 = one := by
      funext i k
      show (if i + 1 = skip 0 k then (1 : Int) else 0) = if i = k then 1 else 0
      rw [show skip 0 k = k + 1 from if_neg (by omega)]
      by_cases e : i = k
      · rw [if_pos e, if_pos (by omega)]
      · rw [if_neg e, if_neg (by omega)]
    rw [this, ih]
    rfl
end Go.Proofs.Ythpfhbogpnhgmaa
