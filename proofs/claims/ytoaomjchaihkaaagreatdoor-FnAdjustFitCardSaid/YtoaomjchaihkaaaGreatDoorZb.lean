/-
  Determinants of whole numbers: what is linear and what alternates, that there is one such function, rows and columns exchanged, products, and columns replaced. No function of the program is named.
  There is one determinant: rows and columns exchanged, products, rows, and columns replaced by a list (Cramer). No function of the program is named.
  Matrices as lists of rows: their entries, determinants and bounds, and the lists that the promises speak of. No function of the program is named.
  The determinant of a net's matrix counts forests by weight: one run after the other is taken or left. No function of the program is named.
  Forests of a net in which two nodes become one. No function of the program is named.
  The matrix and the source of a net: symmetry, sums of rows, bounds, and what heights give. No function of the program is named.
  Lists of rows of which a row is another. No function of the program is named.
  Determinants modulo 2 to the power of 64, and elimination by Euclid's steps on whole rows whose numbers wrap around. No function of the program is named.
-/
import Derived.WalkKit
import Derived.Test.YtoaomjchaihkaaaGreatDoorZa
import Derived.Laws.BitsLemmas
namespace Go.Proofs.YtoaomjchaihkaaaGreatDoor
set_option linter.unusedVariables false

/-- the sum of the first n -/
def smn : Nat → (Nat → Int) → Int
  | 0, _ => 0
  | n + 1, f => smn n f + f n
theorem sm_congr {n : Nat} {f g : Nat → Int} (h : ∀ i, i < n → f i = g i) : smn n f = smn n g := by
  induction n with
  | zero => rfl
  | succ n ih => simp only [smn]; rw [ih (fun i hi => h i (by omega)), h n (by omega)]
theorem sm_zero {n : Nat} {f : Nat → Int} (h : ∀ i, i < n → f i = 0) : smn n f = 0 := by
  induction n with
  | zero => rfl
  | succ n ih => simp only [smn]; rw [ih (fun i hi => h i (by omega)), h n (by omega)]; rfl
theorem sm_add (n : Nat) (f g : Nat → Int) : smn n (fun i => f i + g i) = smn n f + smn n g := by
  induction n with
  | zero => rfl
  | succ n ih => simp only [smn]; rw [ih]; omega
theorem sm_mul (n : Nat) (c : Int) (f : Nat → Int) : smn n (fun i => c * f i) = c * smn n f := by
  induction n with
  | zero => simp [smn]
  | succ n ih => simp only [smn]; rw [ih, Int.mul_add]
theorem sm_lin (n : Nat) (x y : Int) (f g : Nat → Int) : smn n (fun i => x * f i + y * g i) = x * smn n f + y * smn n g := by rw [sm_add, sm_mul, sm_mul]
theorem sm_neg (n : Nat) (f : Nat → Int) : smn n (fun i => -f i) = -smn n f := by
  have := sm_mul n (-1) f
  rw [sm_congr (g := fun i => -1 * f i) (fun i _ => by omega), this]; omega
/-- but one of them is 0 -/
theorem sm_one {n : Nat} {f : Nat → Int} {k : Nat} (hk : k < n) (h : ∀ i, i < n → i ≠ k → f i = 0) : smn n f = f k := by
  induction n with
  | zero => omega
  | succ n ih =>
    simp only [smn]
    by_cases e : k = n
    · subst e; rw [sm_zero (fun i hi => h i (by omega) (by omega))]; omega
    · rw [ih (by omega) (fun i hi hne => h i (by omega) hne), h n (by omega) (Ne.symm e)]; omega
/-- but two of them are 0 -/
theorem sm_two {n : Nat} {f : Nat → Int} {j k : Nat} (hj : j < k) (hk : k < n) (h : ∀ i, i < n → i ≠ j → i ≠ k → f i = 0) : smn n f = f j + f k := by
  induction n with
  | zero => omega
  | succ n ih =>
    simp only [smn]
    by_cases e : k = n
    · subst e; rw [sm_one hj (fun i hi hne => h i (by omega) hne (by omega))]
    · rw [ih (by omega) (fun i hi h1 h2 => h i (by omega) h1 h2), h n (by omega) (by omega) (Ne.symm e)]; omega
/-- the first one apart -/
theorem sm_head (n : Nat) (f : Nat → Int) : smn (n + 1) f = f 0 + smn n (fun i => f (i + 1)) := by
  induction n with
  | zero => simp [smn]
  | succ n ih => rw [smn, ih]; simp only [smn]; omega
theorem sm_swap (n m : Nat) (f : Nat → Nat → Int) : smn n (fun i => smn m (fun j => f i j)) = smn m (fun j => smn n (fun i => f i j)) := by
  induction n with
  | zero => simp only [smn]; exact (sm_zero (fun _ _ => rfl)).symm
  | succ n ih => simp only [smn]; rw [ih, ← sm_add]

/-- the sign of an index -/
def sgj (j : Nat) : Int := if j % 2 = 0 then 1 else -1
theorem sg_succ (j : Nat) : sgj (j + 1) = -sgj j := by unfold sgj; split <;> split <;> omega
theorem sg_zero : sgj 0 = 1 := rfl
theorem sg_sq (j : Nat) : sgj j * sgj j = 1 := by unfold sgj; split <;> rfl
/-- the columns but one -/
def skip (j k : Nat) : Nat := if k < j then k else k + 1
theorem skip_ne (j k : Nat) : skip j k ≠ j := by unfold skip; split <;> omega
theorem skip_lt {n j k : Nat} (hk : k < n) (hj : j < n + 1) : skip j k < n + 1 := by unfold skip; split <;> omega
abbrev Mx := Nat → Nat → Int
/-- without the first row and a column -/
def mnr (a : Mx) (j : Nat) : Mx := fun i k => a (i + 1) (skip j k)
/-- the determinant of the first n rows and columns -/
def det : Nat → Mx → Int
  | 0, _ => 1
  | n + 1, a => smn (n + 1) (fun j => sgj j * a 0 j * det n (mnr a j))
/-- a column replaced -/
def upc (a : Mx) (c : Nat) (v : Nat → Int) : Mx := fun i j => if j = c then v i else a i j
theorem upd_at (a : Mx) (c : Nat) (v : Nat → Int) (i : Nat) : upc a c v i c = v i := if_pos rfl
theorem upd_ne {a : Mx} {c : Nat} {v : Nat → Int} {i j : Nat} (h : j ≠ c) : upc a c v i j = a i j := if_neg h
theorem det_congr {n : Nat} : ∀ {a b : Mx}, (∀ i j, i < n → j < n → a i j = b i j) → det n a = det n b := by
  induction n with
  | zero => intros; rfl
  | succ n ih =>
    intro a b h
    simp only [det]
    refine sm_congr (fun j hj => ?_)
    rw [h 0 j (by omega) hj, ih (a := mnr a j) (b := mnr b j) (fun i k hi hk => h (i + 1) (skip j k) (by omega) (skip_lt hk hj))]
/-- what alternates and is linear in the columns -/
structure Alt (n : Nat) (F : Mx → Int) : Prop where
  congr : ∀ a b : Mx, (∀ i j, i < n → j < n → a i j = b i j) → F a = F b
  lin : ∀ (a : Mx) (c : Nat) (u v : Nat → Int) (x y : Int), c < n → F (upc a c (fun i => x * u i + y * v i)) = x * F (upc a c u) + y * F (upc a c v)
  alt : ∀ (a : Mx) (p q : Nat), p < q → q < n → (∀ i, i < n → a i p = a i q) → F a = 0
/-- where a column is after another one has been left out -/
def bck (j c : Nat) : Nat := if c < j then c else c - 1
theorem skip_back {j c : Nat} (h : c ≠ j) : skip j (bck j c) = c := by
  unfold skip bck
  by_cases h1 : c < j
  · rw [if_pos h1, if_pos h1]
  · rw [if_neg h1, if_neg (by omega)]; omega
theorem back_lt {n j c : Nat} (h : c ≠ j) (hc : c < n + 1) (hj : j < n + 1) : bck j c < n := by unfold bck; split <;> omega
theorem skip_eq {j c k : Nat} (h : c ≠ j) : skip j k = c ↔ k = bck j c := by
  unfold skip bck
  constructor
  · intro e; split at e <;> split <;> omega
  · intro e; split at e <;> split <;> omega
theorem mnr_upd_same (a : Mx) (c : Nat) (v : Nat → Int) : mnr (upc a c v) c = mnr a c := by
  funext i k
  exact upd_ne (skip_ne c k)
theorem mnr_upd {a : Mx} {c j : Nat} {v : Nat → Int} (h : c ≠ j) : mnr (upc a c v) j = upc (mnr a j) (bck j c) (fun i => v (i + 1)) := by
  funext i k
  by_cases e : k = bck j c
  · subst e
    rw [upd_at]
    show upc a c v (i + 1) (skip j (bck j c)) = _
    rw [skip_back h, upd_at]
  · rw [upd_ne e]
    exact upd_ne (fun h' => e ((skip_eq h).1 h'))
theorem det_lin {n : Nat} : ∀ (a : Mx) (c : Nat) (u v : Nat → Int) (x y : Int), c < n → det n (upc a c (fun i => x * u i + y * v i)) = x * det n (upc a c u) + y * det n (upc a c v) := by
  induction n with
  | zero => intro _ _ _ _ _ _ h; omega
  | succ n ih =>
    intro a c u v x y hc
    simp only [det]
    rw [← sm_lin]
    refine sm_congr (fun j hj => ?_)
    by_cases e : c = j
    · subst e
      rw [mnr_upd_same, mnr_upd_same, mnr_upd_same, upd_at, upd_at, upd_at]
      generalize det n (mnr a c) = d
      generalize sgj c = s
      rw [Int.mul_add, Int.add_mul]
      congr 1 <;> simp only [Int.mul_left_comm, Int.mul_comm]
    · rw [mnr_upd e, mnr_upd e, mnr_upd e, upd_ne (Ne.symm e), upd_ne (Ne.symm e), upd_ne (Ne.symm e), ih _ _ _ _ _ _ (back_lt e hc hj)]
      rw [Int.mul_add]
      congr 1 <;> simp only [Int.mul_left_comm, Int.mul_comm, Int.mul_assoc]
/-- two neighboring columns that are equal -/
theorem det_near {n : Nat} : ∀ (a : Mx) (c : Nat), c + 1 < n → (∀ i, i < n → a i c = a i (c + 1)) → det n a = 0 := by
  induction n with
  | zero => intro _ _ h; omega
  | succ n ih =>
    intro a c hc h
    simp only [det]
    rw [sm_two (j := c) (k := c + 1) (by omega) hc (fun j hj h1 h2 => ?_)]
    · have e : det n (mnr a c) = det n (mnr a (c + 1)) := det_congr (fun i k hi hk => by
        show a (i + 1) (skip c k) = a (i + 1) (skip (c + 1) k)
        by_cases e : k = c
        · subst e
          rw [show skip k k = k + 1 from if_neg (by omega), show skip (k + 1) k = k from if_pos (by omega)]
          exact (h (i + 1) (by omega)).symm
        · have : skip c k = skip (c + 1) k := by unfold skip; split <;> split <;> omega
          rw [this])
      rw [e, h 0 (by omega), sg_succ]
      rw [Int.neg_mul, Int.neg_mul]; omega
    · have hb : bck j (c + 1) = bck j c + 1 := by unfold bck; split <;> split <;> omega
      rw [ih (mnr a j) (bck j c) (by rw [← hb]; exact back_lt (Ne.symm h2) hc hj) (fun i hi => by
        show a (i + 1) (skip j (bck j c)) = a (i + 1) (skip j (bck j c + 1))
        rw [← hb, skip_back (Ne.symm h1), skip_back (Ne.symm h2)]
        exact h (i + 1) (by omega)), Int.mul_zero]
/-- a column put bck -/
theorem upd_self (a : Mx) (c : Nat) : upc a c (fun i => a i c) = a := by
  funext i j
  by_cases e : j = c
  · subst e; exact upd_at ..
  · exact upd_ne e
theorem upd_comm {a : Mx} {c d : Nat} {u v : Nat → Int} (h : c ≠ d) : upc (upc a c u) d v = upc (upc a d v) c u := by
  funext i j
  by_cases e : j = d
  · subst e; rw [upd_at, upd_ne (Ne.symm h), upd_at]
  · rw [upd_ne e]
    by_cases e' : j = c
    · subst e'; rw [upd_at, upd_at]
    · rw [upd_ne e', upd_ne e', upd_ne e]
theorem upd_upd (a : Mx) (c : Nat) (u v : Nat → Int) : upc (upc a c u) c v = upc a c v := by
  funext i j
  by_cases e : j = c
  · subst e; rw [upd_at, upd_at]
  · rw [upd_ne e, upd_ne e, upd_ne e]
/-- two columns exchanged -/
def swc (a : Mx) (p q : Nat) : Mx := upc (upc a p (fun i => a i q)) q (fun i => a i p)
theorem lin_add {n : Nat} {F : Mx → Int} (hl : ∀ (a : Mx) (c : Nat) (u v : Nat → Int) (x y : Int), c < n → F (upc a c (fun i => x * u i + y * v i)) = x * F (upc a c u) + y * F (upc a c v)) (a : Mx) {c : Nat} (hc : c < n) (u v : Nat → Int) : F (upc a c (fun i => u i + v i)) = F (upc a c u) + F (upc a c v) := by
  have := hl a c u v 1 1 hc
  simp only [Int.one_mul] at this
  exact this
/-- where two equal columns give 0, exchanged ones give the opposite -/
theorem lin_swap {n : Nat} {F : Mx → Int} (hl : ∀ (a : Mx) (c : Nat) (u v : Nat → Int) (x y : Int), c < n → F (upc a c (fun i => x * u i + y * v i)) = x * F (upc a c u) + y * F (upc a c v)) (p q : Nat) (hp : p < n) (hq : q < n) (hpq : p ≠ q)
    (hz : ∀ a : Mx, (∀ i, i < n → a i p = a i q) → F a = 0) (a : Mx) : F (swc a p q) = -F a := by
  have h1 := hz (upc (upc a p (fun i => a i p + a i q)) q (fun i => a i p + a i q)) (fun i _ => by rw [upd_at, upd_ne hpq, upd_at])
  rw [lin_add hl _ hq, upd_comm hpq, upd_comm hpq, lin_add hl _ hp, lin_add hl _ hp] at h1
  have z1 : F (upc (upc a q (fun i => a i p)) p (fun i => a i p)) = 0 := hz _ (fun i _ => by rw [upd_at, upd_ne (Ne.symm hpq), upd_at])
  have z2 : F (upc (upc a q (fun i => a i q)) p (fun i => a i q)) = 0 := hz _ (fun i _ => by rw [upd_at, upd_ne (Ne.symm hpq), upd_at])
  have e1 : upc (upc a q (fun i => a i p)) p (fun i => a i q) = swc a p q := (upd_comm hpq).symm
  have e2 : upc (upc a q (fun i => a i q)) p (fun i => a i p) = a := by rw [upd_self a q, upd_self]
  rw [z1, z2, e1, e2] at h1
  omega
theorem det_alt {n : Nat} : ∀ (d : Nat) (a : Mx) (p : Nat), p + 1 + d < n → (∀ i, i < n → a i p = a i (p + 1 + d)) → det n a = 0 := by
  intro d
  induction d with
  | zero => intro a p h he; exact det_near a p h he
  | succ d ih =>
    intro a p h he
    have h1 := lin_swap (F := det n) det_lin (p + 1 + d) (p + 1 + d + 1) (by omega) (by omega) (by omega) (fun b hb => det_near b (p + 1 + d) (by omega) hb) a
    have h2 := ih (swc a (p + 1 + d) (p + 1 + d + 1)) p (by omega) (fun i hi => by
      unfold swc
      rw [upd_ne (by omega), upd_ne (by omega), upd_ne (show p + 1 + d ≠ p + 1 + d + 1 by omega), upd_at]
      exact he i hi)
    omega
theorem det_is (n : Nat) : Alt n (det n) := ⟨fun a b h => det_congr h, fun a c u v x y h => det_lin a c u v x y h, fun a p q hpq hq he => det_alt (q - p - 1) a p (by omega) (fun i hi => by rw [show p + 1 + (q - p - 1) = q by omega]; exact he i hi)⟩
/-- the unit matrix -/
def one : Mx := fun i j => if i = j then 1 else 0
theorem det_one (n : Nat) : det n one = 1 := by
  induction n with
  | zero => rfl
  | succ n ih =>
    simp only [det]
    rw [sm_one (k := 0) (by omega) (fun j hj hne => by
      rw [show one 0 j = 0 from if_neg (by omega), Int.mul_zero, Int.zero_mul])]
    have : mnr one 0 = one := by
      funext i k
      show (if i + 1 = skip 0 k then (1 : Int) else 0) = if i = k then 1 else 0
      rw [show skip 0 k = k + 1 from if_neg (by omega)]
      by_cases e : i = k
      · rw [if_pos e, if_pos (by omega)]
      · rw [if_neg e, if_neg (by omega)]
    rw [this, ih]
    rfl
end Go.Proofs.YtoaomjchaihkaaaGreatDoor
namespace Go.Proofs.YtoaomjchaihkaaaGreatDoor
set_option linter.unusedVariables false

section
variable {n : Nat} {F : Mx → Int}
theorem Alt.zero (h : Alt n F) (a : Mx) {c : Nat} (hc : c < n) : F (upc a c (fun _ => 0)) = 0 := by
  have := h.lin a c (fun _ => 0) (fun _ => 0) 0 0 hc
  simpa using this
theorem Alt.scale (h : Alt n F) (a : Mx) {c : Nat} (hc : c < n) (x : Int) (u : Nat → Int) : F (upc a c (fun i => x * u i)) = x * F (upc a c u) := by
  have := h.lin a c u u x 0 hc
  simpa using this
theorem Alt.sum (h : Alt n F) (a : Mx) {c : Nat} (hc : c < n) (x : Nat → Int) (u : Nat → Nat → Int) (m : Nat) : F (upc a c (fun r => smn m (fun i => x i * u i r))) = smn m (fun i => x i * F (upc a c (u i))) := by
  induction m with
  | zero => simp only [smn]; exact h.zero a hc
  | succ m ih =>
    simp only [smn]
    have := h.lin a c (fun r => smn m (fun i => x i * u i r)) (u m) 1 (x m) hc
    simp only [Int.one_mul] at this
    rw [this, ih]
theorem Alt.swap (h : Alt n F) (a : Mx) {p q : Nat} (hp : p < n) (hq : q < n) (hne : p ≠ q) : F (swc a p q) = -F a :=
  lin_swap h.lin p q hp hq hne (fun b hb => by
    rcases Nat.lt_or_gt_of_ne hne with hlt | hlt
    · exact h.alt b p q hlt hq hb
    · exact h.alt b q p hlt hp (fun i hi => (hb i hi).symm)) a
/-- a multiple of another column put on -/
theorem Alt.more (h : Alt n F) (a : Mx) {c d : Nat} (hc : c < n) (hd : d < n) (hne : c ≠ d) (x : Int) : F (upc a c (fun i => a i c + x * a i d)) = F a := by
  have h1 := h.lin a c (fun i => a i c) (fun i => a i d) 1 x hc
  simp only [Int.one_mul] at h1
  have h2 : F (upc a c (fun i => a i d)) = 0 := by
    rcases Nat.lt_or_gt_of_ne hne with hlt | hlt
    · exact h.alt _ c d hlt hd (fun i _ => by rw [upd_at, upd_ne (Ne.symm hne)])
    · exact h.alt _ d c hlt hc (fun i _ => by rw [upd_at, upd_ne (Ne.symm hne)])
  rw [h1, h2, upd_self]; omega
end
/-- where a row is after another one has been left out: the matrix with a unit column put in front -/
def fro (i : Nat) (b : Mx) : Mx := fun r j => if j = 0 then (if r = i then 1 else 0) else (if r = i then 0 else b (bck i r) (j - 1))
theorem fro_zero (i : Nat) (b : Mx) (r : Nat) : fro i b r 0 = if r = i then 1 else 0 := if_pos rfl
theorem fro_succ (i : Nat) (b : Mx) (r j : Nat) : fro i b r (j + 1) = if r = i then 0 else b (bck i r) j := by unfold fro; rw [if_neg (by omega)]; rfl
theorem fro_upd (i : Nat) (b : Mx) (c : Nat) (v : Nat → Int) : fro i (upc b c v) = upc (fro i b) (c + 1) (fun r => if r = i then 0 else v (bck i r)) := by
  funext r j
  cases j with
  | zero => rw [fro_zero, upd_ne (by omega), fro_zero]
  | succ j =>
    rw [fro_succ]
    by_cases e : j = c
    · subst e; rw [upd_at, upd_at]
    · rw [upd_ne (a := b) e, upd_ne (by omega), fro_succ]
theorem Alt.inner {n : Nat} {F : Mx → Int} (h : Alt (n + 1) F) {i : Nat} (hi : i < n + 1) : Alt n (fun b => F (fro i b)) := by
  refine ⟨fun a b he => h.congr _ _ (fun r j hr hj => ?_), fun a c u v x y hc => ?_, fun a p q hpq hq he => ?_⟩
  · cases j with
    | zero => rw [fro_zero, fro_zero]
    | succ j =>
      rw [fro_succ, fro_succ]
      by_cases e : r = i
      · rw [if_pos e, if_pos e]
      · rw [if_neg e, if_neg e, he _ _ (back_lt e hr hi) (by omega)]
  · show F (fro i _) = x * F (fro i _) + y * F (fro i _)
    rw [fro_upd, fro_upd, fro_upd, ← h.lin _ _ _ _ _ _ (by omega)]
    congr 2
    funext r
    by_cases e : r = i
    · simp [e]
    · simp [e]
  · refine h.alt _ (p + 1) (q + 1) (by omega) (by omega) (fun r hr => ?_)
    rw [fro_succ, fro_succ]
    by_cases e : r = i
    · rw [if_pos e, if_pos e]
    · rw [if_neg e, if_neg e]; exact he _ (back_lt e hr hi)
/-- the unit column in front, one row cleared in the first m columns behind it -/
def clr (i m : Nat) (a : Mx) : Mx := fun r j => if j = 0 then (if r = i then 1 else 0) else if j ≤ m ∧ r = i then 0 else a r j
theorem clr_step {n : Nat} {F : Mx → Int} (h : Alt (n + 1) F) (a : Mx) {i m : Nat} (hm : m + 1 < n + 1) : F (clr i (m + 1) a) = F (clr i m a) := by
  rw [← h.more (clr i m a) (c := m + 1) (d := 0) hm (by omega) (by omega) (-a i (m + 1))]
  refine h.congr _ _ (fun r j hr hj => ?_)
  by_cases e : j = m + 1
  · subst e
    rw [upd_at]
    unfold clr
    by_cases e' : r = i
    · simp [e']; omega
    · simp [e']
  · rw [upd_ne e]
    unfold clr
    have hle : j ≤ m + 1 ↔ j ≤ m := by omega
    simp only [hle]
theorem clr_all {n : Nat} {F : Mx → Int} (h : Alt (n + 1) F) (a : Mx) {i : Nat} : ∀ m : Nat, m < n + 1 → F (clr i m a) = F (clr i 0 a)
  | 0, _ => rfl
  | m + 1, hm => (clr_step h a hm).trans (clr_all h a m (by omega))
/-- rows and columns exchanged -/
def trn (a : Mx) : Mx := fun i j => a j i
/-- without a row and the first column -/
def mnc (a : Mx) (i : Nat) : Mx := fun r c => a (skip i r) (c + 1)
/-- unit columns, the i-th one in front -/
def uni (i : Nat) : Mx := fun r j => if j = 0 then (if r = i then 1 else 0) else if j ≤ i then (if r + 1 = j then 1 else 0) else (if r = j then 1 else 0)
theorem uni_sign {n : Nat} {F : Mx → Int} (h : Alt n F) : ∀ i : Nat, i < n → F (uni i) = sgj i * F one
  | 0, hi => by
    rw [sg_zero, Int.one_mul]
    refine h.congr _ _ (fun r j hr hj => ?_)
    unfold uni one
    by_cases e : j = 0
    · subst e; rw [if_pos rfl]
    · rw [if_neg e, if_neg (by omega)]
  | i + 1, hi => by
    have h1 := h.swap (uni i) (p := 0) (q := i + 1) (by omega) hi (by omega)
    have h2 : F (uni (i + 1)) = F (swc (uni i) 0 (i + 1)) := h.congr _ _ (fun r j hr hj => by
      unfold swc
      by_cases e : j = i + 1
      · subst e
        rw [upd_at]
        unfold uni
        simp
      · rw [upd_ne e]
        by_cases e0 : j = 0
        · subst e0
          rw [upd_at]
          unfold uni
          simp
          intro hh
          omega
        · rw [upd_ne e0]
          unfold uni
          have hle : j ≤ i + 1 ↔ j ≤ i := by omega
          simp only [e0, hle, if_false])
    rw [h2, h1, uni_sign h i (by omega), sg_succ, Int.neg_mul]
/-- there is one such function, but for a factor -/
theorem Alt.unique {n : Nat} : ∀ {F : Mx → Int}, Alt n F → ∀ a, F a = F one * det n (trn a) := by
  induction n with
  | zero => intro F h a; rw [h.congr a one (fun i j hi => by omega)]; simp [det]
  | succ n ih =>
    intro F h a
    have e1 : F a = F (upc a 0 (fun r => smn (n + 1) (fun i => a i 0 * (if r = i then 1 else 0)))) := h.congr _ _ (fun r j hr hj => by
      by_cases e : j = 0
      · subst e
        rw [upd_at, sm_one hr (fun i hi hne => by rw [if_neg (Ne.symm hne), Int.mul_zero]), if_pos rfl, Int.mul_one]
      · rw [upd_ne e])
    rw [e1, h.sum a (by omega)]
    simp only [det]
    rw [← sm_mul]
    refine sm_congr (fun i hi => ?_)
    have e2 : F (upc a 0 (fun r => if r = i then 1 else 0)) = F (fro i (mnc a i)) := by
      have e3 : F (upc a 0 (fun r => if r = i then 1 else 0)) = F (clr i 0 a) := h.congr _ _ (fun r j hr hj => by
        unfold clr
        by_cases e : j = 0
        · subst e; rw [upd_at, if_pos rfl]
        · rw [upd_ne e, if_neg e, if_neg (by omega)])
      rw [e3, ← clr_all h a n (by omega)]
      refine h.congr _ _ (fun r j hr hj => ?_)
      cases j with
      | zero => rw [fro_zero]; exact if_pos rfl
      | succ j =>
        rw [fro_succ]
        unfold clr
        rw [if_neg (by omega)]
        by_cases e : r = i
        · rw [if_pos ⟨by omega, e⟩, if_pos e]
        · rw [if_neg (fun hh => e hh.2), if_neg e]
          show _ = a (skip i (bck i r)) (j + 1)
          rw [skip_back e]
    have e4 := ih (h.inner hi) (mnc a i)
    have e5 : F (fro i one) = F (uni i) := h.congr _ _ (fun r j hr hj => by
      cases j with
      | zero => rw [fro_zero]; exact (if_pos rfl).symm
      | succ j =>
        rw [fro_succ]
        unfold uni one bck
        repeat' split
        all_goals first | rfl | omega)
    rw [e2]
    have e6 : F (fro i (mnc a i)) = F (fro i one) * det n (trn (mnc a i)) := e4
    rw [e6, e5, uni_sign h i hi]
    show _ = F one * (sgj i * a i 0 * det n (mnr (trn a) i))
    have e7 : mnr (trn a) i = trn (mnc a i) := rfl
    rw [e7]
    simp only [Int.mul_assoc, Int.mul_comm, Int.mul_left_comm]
/-- promise 40: rows and columns exchanged -/
theorem det_trn (n : Nat) (a : Mx) : det n (trn a) = det n a := by
  have := (det_is n).unique a
  rw [det_one, Int.one_mul] at this
  exact this.symm
/-- a product -/
def mul (n : Nat) (a b : Mx) : Mx := fun i j => smn n (fun k => a i k * b k j)
theorem mul_upd (n : Nat) (a b : Mx) (c : Nat) (v : Nat → Int) : mul n a (upc b c v) = upc (mul n a b) c (fun i => smn n (fun k => a i k * v k)) := by
  funext i j
  unfold mul
  by_cases e : j = c
  · subst e; rw [upd_at]; exact sm_congr (fun k _ => by rw [upd_at])
  · rw [upd_ne e]; exact sm_congr (fun k _ => by rw [upd_ne e])
/-- promise 42 -/
theorem det_mul (n : Nat) (a b : Mx) : det n (mul n a b) = det n a * det n b := by
  have hA : Alt n (fun b => det n (mul n a b)) := by
    refine ⟨fun x y he => det_congr (fun i j hi hj => sm_congr (fun k hk => by rw [he k j hk hj])), fun x c u v s t hc => ?_, fun x p q hpq hq he => (det_is n).alt _ p q hpq hq (fun i hi => sm_congr (fun k hk => by rw [he k hk]))⟩
    show det n (mul n a _) = s * det n (mul n a _) + t * det n (mul n a _)
    rw [mul_upd, mul_upd, mul_upd, ← det_lin _ _ _ _ _ _ hc]
    congr 2
    funext i
    rw [← sm_lin]
    exact sm_congr (fun k _ => by rw [Int.mul_add]; congr 1 <;> simp only [Int.mul_left_comm])
  have h1 := hA.unique b
  rw [det_trn] at h1
  have h2 : det n (mul n a one) = det n a := det_congr (fun i j hi hj => by
    show smn n (fun k => a i k * (if k = j then 1 else 0)) = a i j
    rw [sm_one hj (fun k _ hne => by rw [if_neg hne, Int.mul_zero]), if_pos rfl, Int.mul_one])
  rw [← h2]; exact h1
theorem mul_trn (n : Nat) (a b : Mx) : trn (mul n a b) = mul n (trn b) (trn a) := by
  funext i j
  exact sm_congr (fun k _ => Int.mul_comm _ _)
/-- a row replaced -/
def upr (a : Mx) (r : Nat) (v : Nat → Int) : Mx := fun i j => if i = r then v j else a i j
theorem trn_upr (a : Mx) (r : Nat) (v : Nat → Int) : trn (upr a r v) = upc (trn a) r v := rfl
/-- two rows that are equal -/
theorem det_rows {n : Nat} (a : Mx) {p q : Nat} (hp : p < n) (hq : q < n) (hne : p ≠ q) (he : ∀ j, j < n → a p j = a q j) : det n a = 0 := by
  rw [← det_trn]
  rcases Nat.lt_or_gt_of_ne hne with h | h
  · exact (det_is n).alt _ p q h hq he
  · exact (det_is n).alt _ q p h hp (fun i hi => (he i hi).symm)
/-- two rows exchanged -/
theorem det_rows_swap {n : Nat} (a b : Mx) {p q : Nat} (hp : p < n) (hq : q < n) (hne : p ≠ q) (h : ∀ i j, i < n → j < n → b i j = a (if i = q then p else if i = p then q else i) j) : det n b = -det n a := by
  rw [← det_trn n b, ← det_trn n a, ← (det_is n).swap (trn a) hp hq hne]
  refine det_congr (fun i j hi hj => ?_)
  show b j i = swc (trn a) p q i j
  rw [h j i hj hi]
  unfold swc
  by_cases e : j = q
  · subst e; rw [upd_at, if_pos rfl]; rfl
  · rw [upd_ne e, if_neg e]
    by_cases e' : j = p
    · subst e'; rw [upd_at, if_pos rfl]; rfl
    · rw [upd_ne e', if_neg e']; rfl
/-- promise 41: a row put on another one; a row twice as great -/
theorem det_row_more {n : Nat} (a b : Mx) {r d : Nat} (hr : r < n) (hd : d < n) (hne : r ≠ d) (x : Int) (h : ∀ i j, i < n → j < n → b i j = if i = r then a r j + x * a d j else a i j) : det n b = det n a := by
  rw [← det_trn n b, ← det_trn n a, ← (det_is n).more (trn a) hr hd hne x]
  refine det_congr (fun i j hi hj => ?_)
  show b j i = _
  rw [h j i hj hi]
  by_cases e : j = r
  · subst e; rw [if_pos rfl, upd_at]; rfl
  · rw [if_neg e, upd_ne e]; rfl
theorem det_row_scale {n : Nat} (a b : Mx) {r : Nat} (hr : r < n) (x : Int) (h : ∀ i j, i < n → j < n → b i j = if i = r then x * a r j else a i j) : det n b = x * det n a := by
  have h1 := (det_is n).scale (trn a) hr x (fun i => a r i)
  have h2 : upc (trn a) r (fun i => a r i) = trn a := upd_self (trn a) r
  rw [h2] at h1
  rw [← det_trn n b, ← det_trn n a, ← h1]
  refine det_congr (fun i j hi hj => ?_)
  show b j i = _
  rw [h j i hj hi]
  by_cases e : j = r
  · subst e; rw [if_pos rfl, upd_at]
  · rw [if_neg e, upd_ne e]; rfl
/-- promise 44: a column replaced by what the matrix makes of x -/
theorem cramer_back {n : Nat} (a : Mx) {c : Nat} (hc : c < n) (x : Nat → Int) : det n (upc a c (fun i => smn n (fun k => a i k * x k))) = x c * det n a := by
  have e : (fun i => smn n (fun k => a i k * x k)) = (fun i => smn n (fun k => x k * a i k)) := by
    funext i; exact sm_congr (fun k _ => Int.mul_comm _ _)
  rw [e, (det_is n).sum a hc x (fun k i => a i k) n, sm_one hc (fun k hk hne => ?_)]
  · rw [show upc a c (fun i => a i c) = a from upd_self a c]
  · have : det n (upc a c (fun i => a i k)) = 0 := by
      rcases Nat.lt_or_gt_of_ne hne with h | h
      · exact (det_is n).alt _ k c h hc (fun i _ => by rw [upd_at, upd_ne hne])
      · exact (det_is n).alt _ c k h hk (fun i _ => by rw [upd_at, upd_ne hne])
    rw [this, Int.mul_zero]
/-- b ahead of column s, column t left out (s ≤ t) -/
def put (a : Mx) (b : Nat → Int) (s t : Nat) : Mx := fun i j => if j < s then a i j else if j = s then b i else if j ≤ t then a i (j - 1) else a i j
theorem put_end (a : Mx) (b : Nat → Int) (t : Nat) : put a b t t = upc a t b := by
  funext i j
  unfold put upc
  by_cases e : j = t
  · subst e; rw [if_neg (by omega), if_pos rfl, if_pos rfl]
  · rw [if_neg e]
    by_cases h : j < t
    · rw [if_pos h, if_neg e]
    · rw [if_neg h, if_neg e, if_neg (by omega)]
theorem put_step {n : Nat} (a : Mx) (b : Nat → Int) {s t : Nat} (hs : s < t) (ht : t < n) : det n (put a b s t) = -det n (put a b (s + 1) t) := by
  rw [← (det_is n).swap (put a b (s + 1) t) (p := s) (q := s + 1) (by omega) (by omega) (by omega)]
  refine det_congr (fun i j hi hj => ?_)
  unfold swc
  by_cases e : j = s + 1
  · subst e
    rw [upd_at]
    unfold put
    rw [if_neg (by omega), if_neg (by omega), if_pos (by omega), if_pos (by omega)]
    rfl
  · rw [upd_ne e]
    by_cases e' : j = s
    · subst e'
      rw [upd_at]
      unfold put
      rw [if_neg (by omega), if_pos rfl, if_neg (by omega), if_pos rfl]
    · rw [upd_ne e']
      unfold put
      by_cases h : j < s
      · rw [if_pos h, if_pos (by omega)]
      · have h' : ¬ j < s + 1 := by omega
        simp only [h, e', e, h', if_false]
theorem put_front {n : Nat} (a : Mx) (b : Nat → Int) {t : Nat} (ht : t < n) : ∀ d : Nat, d ≤ t → det n (put a b (t - d) t) = sgj d * det n (upc a t b)
  | 0, _ => by rw [Nat.sub_zero, put_end, sg_zero, Int.one_mul]
  | d + 1, hd => by
    rw [put_step a b (s := t - (d + 1)) (by omega) ht, show t - (d + 1) + 1 = t - d by omega, put_front a b ht d (by omega), sg_succ, Int.neg_mul]
/-- promise 44: the equations hold -/
theorem cramer {n : Nat} (a : Mx) (b : Nat → Int) {i : Nat} (hi : i < n) : smn n (fun t => a i t * det n (upc a t b)) = b i * det n a := by
  -- the list in front, and the row i of it on top
  obtain ⟨c, hc⟩ : ∃ c : Mx, c = fun r j => if r = 0 then (if j = 0 then b i else a i (j - 1)) else (if j = 0 then b (r - 1) else a (r - 1) (j - 1)) := ⟨_, rfl⟩
  have h0 : det (n + 1) c = 0 := det_rows c (p := 0) (q := i + 1) (by omega) (by omega) (by omega) (fun j hj => by rw [hc]; simp)
  simp only [det] at h0
  rw [sm_head] at h0
  have e0 : det n (mnr c 0) = det n a := det_congr (fun r j hr hj => by
    show c (r + 1) (skip 0 j) = _
    rw [show skip 0 j = j + 1 from if_neg (by omega), hc]
    simp)
  have e1 : ∀ t, t < n → sgj (t + 1) * c 0 (t + 1) * det n (mnr c (t + 1)) = -(a i t * det n (upc a t b)) := by
    intro t ht
    have e2 : det n (mnr c (t + 1)) = det n (put a b 0 t) := det_congr (fun r j hr hj => by
      show c (r + 1) (skip (t + 1) j) = _
      rw [hc]
      unfold skip put
      by_cases h : j = 0
      · subst h; simp
      · by_cases h' : j ≤ t
        · have h2 : j < t + 1 := by omega
          simp [h, h', h2]
        · have h2 : ¬ j < t + 1 := by omega
          simp [h, h', h2])
    have e3 := put_front a b ht t (Nat.le_refl _)
    rw [Nat.sub_self] at e3
    rw [e2, e3, sg_succ]
    have e4 : c 0 (t + 1) = a i t := by rw [hc]; simp
    rw [e4]
    have := sg_sq t
    have e5 : -sgj t * a i t * (sgj t * det n (upc a t b)) = -(sgj t * sgj t * (a i t * det n (upc a t b))) := by
      rw [Int.neg_mul, Int.neg_mul]
      congr 1
      simp only [Int.mul_assoc, Int.mul_left_comm]
    rw [e5, this, Int.one_mul]
  rw [sm_congr (g := fun t => -(a i t * det n (upc a t b))) e1, sm_neg, e0, sg_zero] at h0
  have e6 : c 0 0 = b i := by rw [hc]; simp
  rw [e6] at h0
  rw [Int.one_mul] at h0
  omega
end Go.Proofs.YtoaomjchaihkaaaGreatDoor
namespace Go.Proofs.YtoaomjchaihkaaaGreatDoor
set_option linter.unusedVariables false

/-- a number of a list, 0 beyond -/
def num (l : List Int) (i : Nat) : Int := (l[i]?).getD 0
theorem num_at {l : List Int} {i : Nat} {x : Int} (h : l[i]? = some x) : num l i = x := by unfold num; rw [h]; rfl
theorem at_num {l : List Int} {i : Nat} (h : i < l.length) : l[i]? = some (num l i) := by unfold num; rw [List.getElem?_eq_getElem h]; rfl
/-- a row, none beyond -/
def rowL (L : List (List Int)) (i : Nat) : List Int := (L[i]?).getD []
theorem rowL_at {L : List (List Int)} {i : Nat} {r : List Int} (h : L[i]? = some r) : rowL L i = r := by unfold rowL; rw [h]; rfl
theorem at_rowL {L : List (List Int)} {i : Nat} (h : i < L.length) : L[i]? = some (rowL L i) := by unfold rowL; rw [List.getElem?_eq_getElem h]; rfl
/-- an entry -/
def ent (L : List (List Int)) : Mx := fun i j => num (rowL L i) j
/-- as many rows and columns -/
def Sq (n : Nat) (L : List (List Int)) : Prop := L.length = n ∧ ∀ r ∈ L, r.length = n
theorem Sq.row {n i : Nat} {L : List (List Int)} (h : Sq n L) (hi : i < n) : (rowL L i).length = n := h.2 _ (List.mem_of_getElem? (at_rowL (by rw [h.1]; exact hi)))
/-- entries of at most e -/
def SmE (n : Nat) (e : Int) (a : Mx) : Prop := ∀ i j, i < n → j < n → -e ≤ a i j ∧ a i j ≤ e
/-- a matrix -/
def matOk (L : List (List Int)) : Bool := decide (1 ≤ L.length ∧ L.length ≤ 5 ∧ ∀ r ∈ L, r.length = L.length ∧ ∀ x ∈ r, -1000 ≤ x ∧ x ≤ 1000)
theorem matOk_true {L : List (List Int)} : matOk L = true ↔ 1 ≤ L.length ∧ L.length ≤ 5 ∧ ∀ r ∈ L, r.length = L.length ∧ ∀ x ∈ r, -1000 ≤ x ∧ x ≤ 1000 := by unfold matOk; exact decide_eq_true_iff
theorem matOk.sq {L : List (List Int)} (h : matOk L = true) : Sq L.length L := ⟨rfl, fun r hr => ((matOk_true.1 h).2.2 r hr).1⟩
theorem num_mem {l : List Int} {i : Nat} (h : i < l.length) : num l i ∈ l := List.mem_of_getElem? (at_num h)
theorem rowL_mem {L : List (List Int)} {i : Nat} (h : i < L.length) : rowL L i ∈ L := List.mem_of_getElem? (at_rowL h)
theorem matOk.small {L : List (List Int)} (h : matOk L = true) : SmE L.length 1000 (ent L) := fun i j hi hj =>
  ((matOk_true.1 h).2.2 _ (rowL_mem hi)).2 _ (num_mem (by rw [((matOk_true.1 h).2.2 _ (rowL_mem hi)).1]; exact hj))
/-- a list of rows by its entries -/
def mkL (n : Nat) (f : Mx) : List (List Int) := (List.range n).map (fun i => (List.range n).map (fun j => f i j))
section
variable {n : Nat} {f g : Mx}
theorem mkL_len : (mkL n f).length = n := by simp [mkL]
theorem mkL_row {i : Nat} (h : i < n) : (mkL n f)[i]? = some ((List.range n).map (fun j => f i j)) := by unfold mkL; rw [List.getElem?_map, List.getElem?_range h]; rfl
theorem mkL_sq : Sq n (mkL n f) := ⟨mkL_len, fun r hr => by
  obtain ⟨i, hi, rfl⟩ := List.mem_map.1 hr
  simp⟩
theorem num_map {i : Nat} (h : i < n) (v : Nat → Int) : num ((List.range n).map v) i = v i := num_at (by rw [List.getElem?_map, List.getElem?_range h]; rfl)
theorem ent_mkL {i j : Nat} (hi : i < n) (hj : j < n) : ent (mkL n f) i j = f i j := by
  unfold ent
  rw [rowL_at (mkL_row hi), num_map hj]
theorem list_num {l m : List Int} (h : l.length = m.length) (hn : ∀ i, i < l.length → num l i = num m i) : l = m := by
  refine List.ext_getElem? (fun i => ?_)
  by_cases hi : i < l.length
  · rw [at_num hi, at_num (by omega), hn i hi]
  · rw [List.getElem?_eq_none (by omega), List.getElem?_eq_none (by omega)]
theorem Sq.ext {L M : List (List Int)} (h : Sq n L) (h' : Sq n M) (he : ∀ i j, i < n → j < n → ent L i j = ent M i j) : L = M := by
  refine List.ext_getElem? (fun i => ?_)
  by_cases hi : i < n
  · rw [at_rowL (by rw [h.1]; exact hi), at_rowL (by rw [h'.1]; exact hi)]
    congr 1
    exact list_num (by rw [h.row hi, h'.row hi]) (fun j hj => he i j hi (by rw [h.row hi] at hj; exact hj))
  · rw [List.getElem?_eq_none (by rw [h.1]; omega), List.getElem?_eq_none (by rw [h'.1]; omega)]
theorem Sq.mk {L : List (List Int)} (h : Sq n L) : L = mkL n (ent L) := h.ext mkL_sq (fun i j hi hj => (ent_mkL hi hj).symm)
theorem mkL_congr (h : ∀ i j, i < n → j < n → f i j = g i j) : mkL n f = mkL n g := mkL_sq.ext mkL_sq (fun i j hi hj => by rw [ent_mkL hi hj, ent_mkL hi hj, h i j hi hj])
theorem det_mkL (f : Mx) : det n (ent (mkL n f)) = det n f := det_congr (fun i j hi hj => ent_mkL hi hj)
/-- lists that are a matrix -/
theorem mkL_ok (h1 : 1 ≤ n) (h5 : n ≤ 5) : matOk (mkL n f) = true ↔ SmE n 1000 f := by
  rw [matOk_true, mkL_len]
  constructor
  · rintro ⟨-, -, h⟩ i j hi hj
    have := (h _ (List.mem_of_getElem? (mkL_row hi))).2 (f i j) (List.mem_map.2 ⟨j, List.mem_range.2 hj, rfl⟩)
    exact this
  · intro h
    refine ⟨h1, h5, fun r hr => ?_⟩
    obtain ⟨i, hi, rfl⟩ := List.mem_map.1 hr
    refine ⟨by simp, fun x hx => ?_⟩
    obtain ⟨j, hj, rfl⟩ := List.mem_map.1 hx
    exact h i j (List.mem_range.1 hi) (List.mem_range.1 hj)
end
/-- how great a determinant can be -/
def fct : Nat → Int
  | 0 => 1
  | n + 1 => (n + 1 : Int) * fct n
def pw (e : Int) : Nat → Int
  | 0 => 1
  | n + 1 => e * pw e n
theorem fct_pos : ∀ n, 0 ≤ fct n
  | 0 => by simp [fct]
  | n + 1 => Int.mul_nonneg (by omega) (fct_pos n)
theorem pw_pos {e : Int} (he : 0 ≤ e) : ∀ n, 0 ≤ pw e n
  | 0 => by simp [pw]
  | n + 1 => Int.mul_nonneg he (pw_pos he n)
theorem abs_mul {a b x y : Int} (ha : -x ≤ a ∧ a ≤ x) (hb : -y ≤ b ∧ b ≤ y) : -(x * y) ≤ a * b ∧ a * b ≤ x * y := by
  have h1 : (a.natAbs : Int) ≤ x := by omega
  have h2 : (b.natAbs : Int) ≤ y := by omega
  have h3 : ((a * b).natAbs : Int) ≤ x * y := by
    rw [Int.natAbs_mul, Int.natCast_mul]
    exact Int.mul_le_mul h1 h2 (by omega) (by omega)
  omega
theorem sm_abs {n : Nat} {f : Nat → Int} {c : Int} (h : ∀ i, i < n → -c ≤ f i ∧ f i ≤ c) : -(n * c) ≤ smn n f ∧ smn n f ≤ n * c := by
  induction n with
  | zero => simp [smn]
  | succ n ih =>
    have h1 := ih (fun i hi => h i (by omega))
    have h2 := h n (by omega)
    simp only [smn]
    rw [Int.natCast_succ, Int.add_mul, Int.one_mul]
    omega
theorem det_abs {e : Int} (he : 0 ≤ e) : ∀ (n : Nat) (a : Mx), SmE n e a → -(fct n * pw e n) ≤ det n a ∧ det n a ≤ fct n * pw e n
  | 0, a, _ => by simp [det, fct, pw]
  | n + 1, a, h => by
    have h1 : ∀ j, j < n + 1 → -(e * (fct n * pw e n)) ≤ sgj j * a 0 j * det n (mnr a j) ∧ sgj j * a 0 j * det n (mnr a j) ≤ e * (fct n * pw e n) := fun j hj => by
      have h2 := h 0 j (by omega) hj
      have h3 := det_abs he n (mnr a j) (fun i k hi hk => h (i + 1) (skip j k) (by omega) (skip_lt hk hj))
      refine abs_mul ?_ h3
      unfold sgj
      split <;> omega
    have h4 := sm_abs h1
    simp only [det, fct, pw]
    have e1 : ((n + 1 : Nat) : Int) * (e * (fct n * pw e n)) = (n + 1 : Int) * fct n * (e * pw e n) := by
      rw [Int.natCast_succ]
      simp only [Int.mul_assoc, Int.mul_left_comm]
    rw [e1] at h4
    exact h4
/-- without the first row and a column -/
def cutL (L : List (List Int)) (j : Nat) : List (List Int) := (L.drop 1).map (fun r => r.take j ++ r.drop (j + 1))
theorem num_cut {r : List Int} {j k : Nat} (hj : j < r.length) : num (r.take j ++ r.drop (j + 1)) k = num r (skip j k) := by
  unfold num skip
  rw [List.getElem?_append]
  have hl : (r.take j).length = j := by rw [List.length_take]; omega
  rw [hl]
  by_cases h : k < j
  · rw [if_pos h, if_pos h, List.getElem?_take, if_pos h]
  · rw [if_neg h, if_neg h, List.getElem?_drop, show j + 1 + (k - j) = k + 1 by omega]
theorem cut_sq {n j : Nat} {L : List (List Int)} (h : Sq (n + 1) L) (hj : j < n + 1) : Sq n (cutL L j) := by
  refine ⟨by unfold cutL; rw [List.length_map, List.length_drop, h.1]; omega, fun r hr => ?_⟩
  obtain ⟨r0, h0, rfl⟩ := List.mem_map.1 hr
  have := h.2 r0 (List.mem_of_mem_drop h0)
  rw [List.length_append, List.length_take, List.length_drop]; omega
theorem ent_cut {n i j k : Nat} {L : List (List Int)} (h : Sq (n + 1) L) (hj : j < n + 1) (hi : i < n) : ent (cutL L j) i k = mnr (ent L) j i k := by
  have h1 : L[i + 1]? = some (rowL L (i + 1)) := at_rowL (by rw [h.1]; omega)
  have h2 : (cutL L j)[i]? = some ((rowL L (i + 1)).take j ++ (rowL L (i + 1)).drop (j + 1)) := by
    unfold cutL
    rw [List.getElem?_map, List.getElem?_drop, Nat.add_comm 1 i, h1]; rfl
  show num (rowL (cutL L j) i) k = num (rowL L (i + 1)) (skip j k)
  rw [rowL_at h2, num_cut (by rw [h.row (by omega)]; exact hj)]
theorem det_cut {n j : Nat} {L : List (List Int)} (h : Sq (n + 1) L) (hj : j < n + 1) : det n (ent (cutL L j)) = det n (mnr (ent L) j) := det_congr (fun i k hi hk => ent_cut h hj hi)
end Go.Proofs.YtoaomjchaihkaaaGreatDoor
namespace Go.Proofs.YtoaomjchaihkaaaGreatDoor
set_option linter.unusedVariables false

/-- a sum over runs -/
def lsm : List Rn → (Rn → Int) → Int
  | [], _ => 0
  | r :: rs, F => F r + lsm rs F
theorem lsm_perm {rs rs' : List Rn} (h : rs.Perm rs') (F : Rn → Int) : lsm rs F = lsm rs' F := by
  induction h with
  | nil => rfl
  | cons x _ ih => simp only [lsm, ih]
  | swap x y l => simp only [lsm]; omega
  | trans _ _ ih1 ih2 => rw [ih1, ih2]
theorem lsm_congr {rs : List Rn} {F G : Rn → Int} (h : ∀ r ∈ rs, F r = G r) : lsm rs F = lsm rs G := by
  induction rs with
  | nil => rfl
  | cons r rs ih => simp only [lsm]; rw [h r (by simp), ih (fun x hx => h x (List.mem_cons_of_mem _ hx))]
theorem lsm_zero {rs : List Rn} {F : Rn → Int} (h : ∀ r ∈ rs, F r = 0) : lsm rs F = 0 := by
  induction rs with
  | nil => rfl
  | cons r rs ih => simp only [lsm]; rw [h r (by simp), ih (fun x hx => h x (List.mem_cons_of_mem _ hx))]; rfl
theorem lsm_mul (rs : List Rn) (F : Rn → Int) (x : Int) : lsm rs F * x = lsm rs (fun r => F r * x) := by
  induction rs with
  | nil => simp [lsm]
  | cons r rs ih => simp only [lsm]; rw [Int.add_mul, ih]
theorem smn_lsm (n : Nat) (rs : List Rn) (F : Nat → Rn → Int) : smn n (fun k => lsm rs (F k)) = lsm rs (fun r => smn n (fun k => F k r)) := by
  induction rs with
  | nil => exact sm_zero (fun _ _ => rfl)
  | cons r rs ih => simp only [lsm]; rw [sm_add, ih]
/-- 1 at the end of a run, -1 at its beginning -/
def inc (r : Rn) (i : Nat) : Int := (if r.t = (i : Int) then 1 else 0) - (if r.f = (i : Int) then 1 else 0)
/-- the matrix of a net, with the node 0 -/
def lap (rs : List Rn) : Mx := fun i j => lsm rs (fun r => r.g * (inc r i * inc r j))
theorem lap_perm {rs rs' : List Rn} (h : rs.Perm rs') (i j : Nat) : lap rs i j = lap rs' i j := lsm_perm h _
/-- .. with the rows of grounded nodes replaced -/
def gnd (S : Nat → Bool) (rs : List Rn) : Mx := fun i j => if S i = true then one i j else lap rs i j
def InN (N : Nat) (rs : List Rn) : Prop := ∀ r ∈ rs, 0 ≤ r.f ∧ r.f < (N : Int) ∧ 0 ≤ r.t ∧ r.t < (N : Int)
def insS (S : Nat → Bool) (u : Nat) : Nat → Bool := fun i => S i || i == u
theorem det_upr_lin {n : Nat} (a : Mx) {c : Nat} (u v : Nat → Int) (x y : Int) (hc : c < n) : det n (upr a c (fun j => x * u j + y * v j)) = x * det n (upr a c u) + y * det n (upr a c v) := by
  rw [← det_trn n (upr a c _), ← det_trn n (upr a c u), ← det_trn n (upr a c v), trn_upr, trn_upr, trn_upr]
  exact det_lin (trn a) c u v x y hc
theorem upr_at (a : Mx) (c : Nat) (v : Nat → Int) (j : Nat) : upr a c v c j = v j := if_pos rfl
theorem upr_ne {a : Mx} {c i : Nat} {v : Nat → Int} (h : i ≠ c) (j : Nat) : upr a c v i j = a i j := if_neg h
/-- a run joins a grounded node s and another one u -/
def Joins2 (r : Rn) (s u : Nat) : Prop := (r.f = (s : Int) ∧ r.t = (u : Int)) ∨ (r.f = (u : Int) ∧ r.t = (s : Int))
theorem inc_join {r : Rn} {s u : Nat} (h : Joins2 r s u) (hsu : s ≠ u) (i j : Nat) (his : i ≠ s) : inc r i * inc r j = if i = u then one u j - one s j else 0 := by
  unfold inc one
  rcases h with ⟨h1, h2⟩ | ⟨h1, h2⟩ <;> rw [h1, h2]
  · by_cases e : i = u
    · subst e
      rw [if_pos rfl, if_pos rfl, if_neg (by omega)]
      by_cases e2 : i = j
      · subst e2; rw [if_pos rfl, if_pos rfl, if_neg (by omega), if_neg (by omega)]; rfl
      · rw [if_neg (by omega), if_neg e2]
        by_cases e3 : s = j
        · subst e3; rw [if_pos rfl, if_pos rfl]; rfl
        · rw [if_neg (by omega), if_neg e3]; rfl
    · rw [if_neg (by omega), if_neg (by omega), if_neg e]; simp
  · by_cases e : i = u
    · subst e
      rw [if_pos rfl, if_pos rfl, if_neg (by omega)]
      by_cases e2 : i = j
      · subst e2; rw [if_pos rfl, if_pos rfl, if_neg (by omega), if_neg (by omega)]; rfl
      · rw [if_neg (show ¬ (i : Int) = (j : Int) by omega), if_neg e2]
        by_cases e3 : s = j
        · subst e3; rw [if_pos rfl, if_pos rfl]; rfl
        · rw [if_neg (by omega), if_neg e3]; rfl
    · rw [if_neg (by omega), if_neg (by omega), if_neg e]; simp
theorem gnd_add {N : Nat} {S : Nat → Bool} {r : Rn} {s u : Nat} (rs : List Rn) (h : Joins2 r s u) (hs : S s = true) (hu : S u = false) (hsN : s < N) (huN : u < N) :
    det N (gnd S (r :: rs)) = det N (gnd S rs) + r.g * det N (gnd (insS S u) rs) := by
  have hsu : s ≠ u := fun e => by rw [e, hu] at hs; cases hs
  have h1 : det N (gnd S (r :: rs)) = det N (upr (gnd S rs) u (fun j => 1 * gnd S rs u j + r.g * (1 * one u j + (-1) * one s j))) := by
    refine det_congr (fun i j hi hj => ?_)
    by_cases e : i = u
    · subst e
      rw [upr_at]
      unfold gnd
      rw [hu]
      simp only [Bool.false_eq_true, if_false]
      show r.g * (inc r i * inc r j) + lap rs i j = _
      rw [inc_join h hsu i j (fun e => hsu e.symm), if_pos rfl]
      have : 1 * one i j + -1 * one s j = one i j - one s j := by omega
      rw [this]; omega
    · rw [upr_ne e]
      unfold gnd
      by_cases hS : S i = true
      · rw [if_pos hS, if_pos hS]
      · rw [if_neg hS, if_neg hS]
        show r.g * (inc r i * inc r j) + lap rs i j = _
        rw [inc_join h hsu i j (fun e2 => hS (by rw [e2]; exact hs)), if_neg e]; omega
  have h2 : det N (upr (gnd S rs) u (fun j => gnd S rs u j)) = det N (gnd S rs) := det_congr (fun i j hi hj => by
    by_cases e : i = u
    · subst e; rw [upr_at]
    · rw [upr_ne e])
  have h3 : det N (upr (gnd S rs) u (fun j => one s j)) = 0 := det_rows _ (p := u) (q := s) huN hsN (fun e => hsu e.symm) (fun j hj => by
    rw [upr_at, upr_ne hsu]; unfold gnd; rw [if_pos hs])
  have h4 : det N (upr (gnd S rs) u (fun j => one u j)) = det N (gnd (insS S u) rs) := det_congr (fun i j hi hj => by
    unfold gnd insS
    by_cases e : i = u
    · subst e; rw [upr_at]; simp
    · rw [upr_ne e]; simp [e])
  rw [h1, det_upr_lin _ (fun j => gnd S rs u j) (fun j => 1 * one u j + (-1) * one s j) 1 r.g huN, det_upr_lin _ (fun j => one u j) (fun j => one s j) 1 (-1) huN, h2, h3, h4]
  rw [Int.one_mul, Int.one_mul, Int.mul_zero, Int.add_zero]
theorem inc_sum {N : Nat} {r : Rn} (h : 0 ≤ r.f ∧ r.f < (N : Int) ∧ 0 ≤ r.t ∧ r.t < (N : Int)) (x : Nat → Int) : smn N (fun k => inc r k * x k) = x r.t.toNat - x r.f.toNat := by
  obtain ⟨h1, h2, h3, h4⟩ := h
  have e1 : ∀ k, inc r k * x k = (if k = r.t.toNat then x k else 0) + (if k = r.f.toNat then -x k else 0) := fun k => by
    unfold inc
    rw [Int.sub_mul]
    by_cases a : k = r.t.toNat
    · rw [if_pos (by omega), if_pos a]
      by_cases b : k = r.f.toNat
      · rw [if_pos (by omega), if_pos b]; omega
      · rw [if_neg (by omega), if_neg b]; omega
    · rw [if_neg (by omega), if_neg a]
      by_cases b : k = r.f.toNat
      · rw [if_pos (by omega), if_pos b]; omega
      · rw [if_neg (by omega), if_neg b]; omega
  rw [sm_congr (fun k _ => e1 k), sm_add, sm_one (k := r.t.toNat) (by omega) (fun i _ hne => if_neg hne), sm_one (k := r.f.toNat) (by omega) (fun i _ hne => if_neg hne), if_pos rfl, if_pos rfl]
  omega
theorem gnd_zero {N : Nat} {S : Nat → Bool} {rs : List Rn} {u : Nat} (hin : InN N rs) (huN : u < N) (hu : S u = false) (hno : ∀ r ∈ rs, S r.f.toNat = S r.t.toNat) : det N (gnd S rs) = 0 := by
  have hk : ∀ i, i < N → smn N (fun k => gnd S rs i k * (if S k = true then 0 else 1)) = 0 := fun i hi => by
    unfold gnd
    by_cases hS : S i = true
    · rw [sm_one (k := i) hi (fun k _ hne => by rw [if_pos hS]; unfold one; rw [if_neg (Ne.symm hne)]; simp)]
      rw [if_pos hS, if_pos hS]; simp
    · have e1 : ∀ k, (if S i = true then one i k else lap rs i k) * (if S k = true then 0 else 1) = lsm rs (fun r => (r.g * inc r i) * (inc r k * (if S k = true then 0 else 1))) := fun k => by
        rw [if_neg hS]
        unfold lap
        rw [lsm_mul]
        exact lsm_congr (fun r _ => by simp only [Int.mul_assoc])
      rw [sm_congr (fun k _ => e1 k), smn_lsm]
      refine lsm_zero (fun r hr => ?_)
      rw [sm_mul, inc_sum (hin r hr) (fun k => if S k = true then 0 else 1), hno r hr, Int.sub_self, Int.mul_zero]
  have h1 := cramer_back (gnd S rs) huN (fun k => if S k = true then 0 else 1)
  rw [det_congr (b := upc (gnd S rs) u (fun _ => 0)) (fun i j hi hj => by
    by_cases e : j = u
    · subst e; rw [upd_at, upd_at]; exact hk i hi
    · rw [upd_ne e, upd_ne e]), (det_is N).zero _ huN, if_neg (by rw [hu]; simp), Int.one_mul] at h1
  exact h1.symm
theorem gnd_full {N : Nat} {S : Nat → Bool} {rs : List Rn} (h : ∀ i, i < N → S i = true) : det N (gnd S rs) = 1 := by
  rw [det_congr (b := one) (fun i j hi hj => by unfold gnd; rw [if_pos (h i hi)])]; exact det_one N
theorem gnd_perm {N : Nat} {S : Nat → Bool} {rs rs' : List Rn} (h : rs.Perm rs') : det N (gnd S rs) = det N (gnd S rs') :=
  det_congr (fun i j _ _ => by unfold gnd; rw [lap_perm h])
/-- a sum over all choices of runs that have a property: the product of their weights -/
noncomputable def sbw : List Rn → (List Rn → Prop) → Int
  | [], P => open Classical in if P [] then 1 else 0
  | r :: rs, P => sbw rs P + r.g * sbw rs (fun T => P (r :: T))
theorem sbw_congr : ∀ {rs : List Rn} {P Q : List Rn → Prop}, (∀ T, (∀ r ∈ T, r ∈ rs) → (P T ↔ Q T)) → sbw rs P = sbw rs Q
  | [], P, Q, h => by
    have e : P [] ↔ Q [] := h [] (fun r hr => by simp at hr)
    unfold sbw
    by_cases hp : P []
    · rw [if_pos hp, if_pos (e.1 hp)]
    · rw [if_neg hp, if_neg (fun hq => hp (e.2 hq))]
  | r :: rs, P, Q, h => by
    simp only [sbw]
    rw [sbw_congr (fun T hT => h T (fun x hx => List.mem_cons_of_mem _ (hT x hx))), sbw_congr (fun T hT => h (r :: T) (fun x hx => by
      rcases List.mem_cons.1 hx with e | e
      · rw [e]; exact List.mem_cons_self
      · exact List.mem_cons_of_mem _ (hT x e)))]
theorem sbw_none : ∀ {rs : List Rn} {P : List Rn → Prop}, (∀ T, (∀ r ∈ T, r ∈ rs) → ¬ P T) → sbw rs P = 0
  | [], P, h => by unfold sbw; rw [if_neg (h [] (fun r hr => by simp at hr))]
  | r :: rs, P, h => by
    simp only [sbw]
    rw [sbw_none (fun T hT => h T (fun x hx => List.mem_cons_of_mem _ (hT x hx))), sbw_none (fun T hT => h (r :: T) (fun x hx => by
      rcases List.mem_cons.1 hx with e | e
      · rw [e]; exact List.mem_cons_self
      · exact List.mem_cons_of_mem _ (hT x e)))]
    simp
theorem sbw_empty : ∀ {rs : List Rn} {P : List Rn → Prop}, (∀ T, T ≠ [] → ¬ P T) → P [] → sbw rs P = 1
  | [], P, _, h => by unfold sbw; rw [if_pos h]
  | r :: rs, P, h, h0 => by
    simp only [sbw]
    rw [sbw_empty h h0, sbw_none (fun T _ => h (r :: T) (by simp))]; simp
theorem sbw_perm {rs rs' : List Rn} (h : rs.Perm rs') : ∀ {P : List Rn → Prop}, (∀ T T', T.Perm T' → (P T ↔ P T')) → sbw rs P = sbw rs' P := by
  induction h with
  | nil => intro P _; rfl
  | cons x _ ih => intro P hP; simp only [sbw]; rw [ih hP, ih (fun T T' hT => hP _ _ (hT.cons x))]
  | swap x y l =>
    intro P hP
    simp only [sbw]
    rw [sbw_congr (rs := l) (P := fun T => P (x :: y :: T)) (Q := fun T => P (y :: x :: T)) (fun T _ => hP _ _ (List.Perm.swap _ _ _))]
    rw [Int.mul_add, Int.mul_add, ← Int.mul_assoc, ← Int.mul_assoc, Int.mul_comm x.g y.g]
    omega
  | trans _ _ ih1 ih2 => intro P hP; rw [ih1 hP, ih2 hP]
/-- how many nodes are grounded -/
def cnt (S : Nat → Bool) : Nat → Nat
  | 0 => 0
  | n + 1 => cnt S n + if S n = true then 1 else 0
theorem cnt_le (S : Nat → Bool) : ∀ n, cnt S n ≤ n
  | 0 => Nat.le_refl _
  | n + 1 => by have := cnt_le S n; simp only [cnt]; split <;> omega
theorem cnt_full {S : Nat → Bool} : ∀ {n : Nat}, (∀ i, i < n → S i = true) → cnt S n = n
  | 0, _ => rfl
  | n + 1, h => by simp only [cnt]; rw [cnt_full (fun i hi => h i (by omega)), if_pos (h n (by omega))]
theorem cnt_ins {S : Nat → Bool} {u : Nat} (hu : S u = false) : ∀ {n : Nat}, cnt (insS S u) n = cnt S n + if u < n then 1 else 0
  | 0 => rfl
  | n + 1 => by
    simp only [cnt]
    rw [cnt_ins hu]
    unfold insS
    by_cases e : n = u
    · subst e; simp [hu]
    · have : (n == u) = false := by simpa using e
      rw [this, Bool.or_false]
      by_cases h : u < n
      · rw [if_pos h, if_pos (show u < n + 1 by omega)]; omega
      · rw [if_neg h, if_neg (show ¬ u < n + 1 by omega)]; omega
/-- each node is linked with a grounded one -/
def Spn (N : Nat) (S : Nat → Bool) (T : List Rn) : Prop := ∀ φ : Int → Prop, (∀ r ∈ T, (φ r.f ↔ φ r.t)) → (∀ s : Nat, s < N → S s = true → ¬ φ s) → ∀ i : Nat, i < N → ¬ φ i
/-- a forest of which each tree has one grounded node -/
def Frs (N : Nat) (S : Nat → Bool) (T : List Rn) : Prop := T.length + cnt S N = N ∧ Spn N S T
theorem Frs.perm {N : Nat} {S : Nat → Bool} (T T' : List Rn) (h : T.Perm T') : Frs N S T ↔ Frs N S T' := by
  unfold Frs Spn
  rw [h.length_eq]
  exact ⟨fun ⟨h1, h2⟩ => ⟨h1, fun φ hφ => h2 φ (fun r hr => hφ r (h.mem_iff.1 hr))⟩, fun ⟨h1, h2⟩ => ⟨h1, fun φ hφ => h2 φ (fun r hr => hφ r (h.mem_iff.2 hr))⟩⟩
theorem Frs.cons {N : Nat} {S : Nat → Bool} {r : Rn} {s u : Nat} (T : List Rn) (h : Joins2 r s u) (hs : S s = true) (hu : S u = false) (hsN : s < N) (huN : u < N) : Frs N S (r :: T) ↔ Frs N (insS S u) T := by
  unfold Frs
  rw [cnt_ins hu, if_pos huN, List.length_cons]
  refine and_congr (by omega) ?_
  constructor
  · intro h1 φ hφ h0 i hi
    refine h1 φ (fun x hx => ?_) (fun t ht hS => h0 t ht (by unfold insS; rw [hS]; rfl)) i hi
    rcases List.mem_cons.1 hx with e | e
    · subst e
      have a := h0 s hsN (by unfold insS; rw [hs]; rfl)
      have b := h0 u huN (by unfold insS; simp)
      rcases h with ⟨e1, e2⟩ | ⟨e1, e2⟩ <;> rw [e1, e2]
      · exact ⟨fun c => absurd c a, fun c => absurd c b⟩
      · exact ⟨fun c => absurd c b, fun c => absurd c a⟩
    · exact hφ x e
  · intro h1 φ hφ h0 i hi
    refine h1 φ (fun x hx => hφ x (List.mem_cons_of_mem _ hx)) (fun t ht hS => ?_) i hi
    by_cases e : t = u
    · subst e
      have hr := hφ r List.mem_cons_self
      have a := h0 s hsN hs
      rcases h with ⟨e1, e2⟩ | ⟨e1, e2⟩ <;> rw [e1, e2] at hr
      · exact fun c => a (hr.2 c)
      · exact fun c => a (hr.1 c)
    · exact h0 t ht (by unfold insS at hS; simpa [e] using hS)
theorem forest {N : Nat} : ∀ (n : Nat) (rs : List Rn) (S : Nat → Bool), rs.length = n → InN N rs → det N (gnd S rs) = sbw rs (Frs N S) := by
  intro n
  induction n with
  | zero =>
    intro rs S hl hin
    by_cases hf : ∀ i, i < N → S i = true
    · rw [gnd_full hf]
      exact (sbw_empty (fun T hT h => hT (List.eq_nil_of_length_eq_zero (by have := h.1; rw [cnt_full hf] at this; omega))) ⟨by rw [cnt_full hf]; simp, fun φ hφ h0 i hi => h0 i hi (hf i hi)⟩).symm
    · obtain ⟨u, hu⟩ : ∃ u, ¬ (u < N → S u = true) := Classical.not_forall.1 hf
      have huN : u < N := Classical.byContradiction (fun h => hu (fun h' => absurd h' h))
      have hu0 : S u = false := by cases h : S u <;> simp_all
      have he : rs = [] := List.eq_nil_of_length_eq_zero hl
      subst he
      rw [gnd_zero hin huN hu0 (fun r hr => by simp at hr)]
      refine (sbw_none (fun T hT h => ?_)).symm
      exact h.2 (fun x => ∃ k : Nat, x = k ∧ S k = false) (fun r hr => absurd (hT r hr) (by simp)) (fun s _ hs ⟨k, e, hk⟩ => by have : s = k := (by omega); rw [← this, hs] at hk; cases hk) u huN ⟨u, rfl, hu0⟩
  | succ n ih =>
    intro rs S hl hin
    by_cases hf : ∀ i, i < N → S i = true
    · rw [gnd_full hf]
      exact (sbw_empty (fun T hT h => hT (List.eq_nil_of_length_eq_zero (by have := h.1; rw [cnt_full hf] at this; omega))) ⟨by rw [cnt_full hf]; simp, fun φ hφ h0 i hi => h0 i hi (hf i hi)⟩).symm
    · obtain ⟨u, hu⟩ : ∃ u, ¬ (u < N → S u = true) := Classical.not_forall.1 hf
      have huN : u < N := Classical.byContradiction (fun h => hu (fun h' => absurd h' h))
      have hu0 : S u = false := by cases h : S u <;> simp_all
      by_cases hj : ∀ r ∈ rs, S r.f.toNat = S r.t.toNat
      · rw [gnd_zero hin huN hu0 hj]
        refine (sbw_none (fun T hT h => ?_)).symm
        refine h.2 (fun x => 0 ≤ x ∧ S x.toNat = false) (fun r hr => ?_) (fun s _ hs hk => by have := hk.2; rw [Int.toNat_natCast, hs] at this; cases this) u huN ⟨by omega, by rw [Int.toNat_natCast]; exact hu0⟩
        obtain ⟨h1, _, h3, _⟩ := hin r (hT r hr)
        rw [hj r (hT r hr)]
        exact ⟨fun h => ⟨h3, h.2⟩, fun h => ⟨h1, h.2⟩⟩
      · obtain ⟨r, hr⟩ : ∃ r, ¬ (r ∈ rs → S r.f.toNat = S r.t.toNat) := Classical.not_forall.1 hj
        have hrm : r ∈ rs := Classical.byContradiction (fun h => hr (fun h' => absurd h' h))
        have hne : S r.f.toNat ≠ S r.t.toNat := fun h => hr (fun _ => h)
        obtain ⟨r1, r2, r3, r4⟩ := hin r hrm
        obtain ⟨s, v, hJ, hs, hv, hsN, hvN⟩ : ∃ s v, Joins2 r s v ∧ S s = true ∧ S v = false ∧ s < N ∧ v < N := by
          cases h1 : S r.f.toNat <;> cases h2 : S r.t.toNat
          · rw [h1, h2] at hne; exact absurd rfl hne
          · exact ⟨r.t.toNat, r.f.toNat, .inr ⟨by omega, by omega⟩, h2, h1, by omega, by omega⟩
          · exact ⟨r.f.toNat, r.t.toNat, .inl ⟨by omega, by omega⟩, h1, h2, by omega, by omega⟩
          · rw [h1, h2] at hne; exact absurd rfl hne
        obtain ⟨l1, l2, rfl⟩ := List.append_of_mem hrm
        have hp : (l1 ++ r :: l2).Perm (r :: (l1 ++ l2)) := List.perm_middle
        have hin' : InN N (l1 ++ l2) := fun x hx => hin x (by
          rcases List.mem_append.1 hx with h | h
          · exact List.mem_append_left _ h
          · exact List.mem_append_right _ (List.mem_cons_of_mem _ h))
        have hl' : (l1 ++ l2).length = n := by simp at hl ⊢; omega
        rw [gnd_perm hp, gnd_add _ hJ hs hv hsN hvN, ih _ _ hl' hin', ih _ _ hl' hin', sbw_perm hp Frs.perm]
        simp only [sbw]
        rw [sbw_congr (rs := l1 ++ l2) (P := fun T => Frs N S (r :: T)) (fun T _ => Frs.cons T hJ hs hv hsN hvN)]
/-- the node 0 alone is grounded -/
def S0 : Nat → Bool := fun i => i == 0
theorem cnt_S0 : ∀ n : Nat, cnt S0 (n + 1) = 1
  | 0 => rfl
  | n + 1 => by rw [cnt, cnt_S0 n]; simp [S0]
/-- the matrix of a net has a row and a column for each node but the node 0 -/
def lap0 (rs : List Rn) : Mx := fun i j => lap rs (i + 1) (j + 1)
theorem det_lap0 (n : Nat) (rs : List Rn) : det n (lap0 rs) = det (n + 1) (gnd S0 rs) := by
  show _ = smn (n + 1) (fun j => sgj j * gnd S0 rs 0 j * det n (mnr (gnd S0 rs) j))
  rw [sm_one (k := 0) (by omega) (fun j _ hne => by unfold gnd one S0; simp [Ne.symm hne])]
  have e : gnd S0 rs 0 0 = 1 := by unfold gnd one S0; simp
  rw [e, sg_zero, Int.one_mul, Int.one_mul]
  refine det_congr (fun i j _ _ => ?_)
  show lap rs (i + 1) (j + 1) = gnd S0 rs (i + 1) (skip 0 j)
  have : skip 0 j = j + 1 := by unfold skip; simp
  rw [this]; unfold gnd S0; simp
theorem det_trees {n : Nat} {rs : List Rn} (h : InN (n + 1) rs) : det n (lap0 rs) = sbw rs (Frs (n + 1) S0) := by rw [det_lap0]; exact forest _ rs S0 rfl h
end Go.Proofs.YtoaomjchaihkaaaGreatDoor
namespace Go.Proofs.YtoaomjchaihkaaaGreatDoor
set_option linter.unusedVariables false

theorem Spn.perm {N : Nat} {S : Nat → Bool} {T T' : List Rn} (h : T.Perm T') : Spn N S T → Spn N S T' := fun h1 φ hφ => h1 φ (fun r hr => hφ r (h.mem_iff.1 hr))
theorem Spn.ins {N : Nat} {S : Nat → Bool} {r : Rn} {s u : Nat} {T : List Rn} (h : Joins2 r s u) (hs : S s = true) (hsN : s < N) (huN : u < N) (h1 : Spn N S (r :: T)) : Spn N (insS S u) T := by
  intro φ hφ h0 i hi
  refine h1 φ (fun x hx => ?_) (fun t ht hS => h0 t ht (by unfold insS; rw [hS]; rfl)) i hi
  rcases List.mem_cons.1 hx with e | e
  · subst e
    have a := h0 s hsN (by unfold insS; rw [hs]; rfl)
    have b := h0 u huN (by unfold insS; simp)
    rcases h with ⟨e1, e2⟩ | ⟨e1, e2⟩ <;> rw [e1, e2]
    · exact ⟨fun c => absurd c a, fun c => absurd c b⟩
    · exact ⟨fun c => absurd c b, fun c => absurd c a⟩
  · exact hφ x e
/-- to link all nodes takes as many runs as there are nodes that are not grounded -/
theorem Spn.len {N : Nat} : ∀ (n : Nat) {T : List Rn} {S : Nat → Bool}, T.length = n → InN N T → Spn N S T → N ≤ T.length + cnt S N := by
  intro n
  induction n with
  | zero =>
    intro T S hl hin h
    have he : T = [] := List.eq_nil_of_length_eq_zero hl
    subst he
    rw [cnt_full (fun i hi => ?_)]
    · omega
    · cases hS : S i
      · exact absurd ⟨i, rfl, hS⟩ (h (fun x => ∃ k : Nat, x = k ∧ S k = false) (fun r hr => by simp at hr) (fun s _ hs ⟨k, e, hk⟩ => by have : s = k := (by omega); rw [← this, hs] at hk; cases hk) i hi)
      · rfl
  | succ n ih =>
    intro T S hl hin h
    by_cases hf : ∀ i, i < N → S i = true
    · rw [cnt_full hf]; omega
    · obtain ⟨u, hu⟩ : ∃ u, ¬ (u < N → S u = true) := Classical.not_forall.1 hf
      have huN : u < N := Classical.byContradiction (fun h => hu (fun h' => absurd h' h))
      have hu0 : S u = false := by cases h : S u <;> simp_all
      by_cases hj : ∀ r ∈ T, S r.f.toNat = S r.t.toNat
      · exfalso
        refine h (fun x => 0 ≤ x ∧ S x.toNat = false) (fun r hr => ?_) (fun s _ hs hk => by have := hk.2; rw [Int.toNat_natCast, hs] at this; cases this) u huN ⟨by omega, by rw [Int.toNat_natCast]; exact hu0⟩
        obtain ⟨h1, _, h3, _⟩ := hin r hr
        rw [hj r hr]
        exact ⟨fun h => ⟨h3, h.2⟩, fun h => ⟨h1, h.2⟩⟩
      · obtain ⟨r, hr⟩ : ∃ r, ¬ (r ∈ T → S r.f.toNat = S r.t.toNat) := Classical.not_forall.1 hj
        have hrm : r ∈ T := Classical.byContradiction (fun h => hr (fun h' => absurd h' h))
        have hne : S r.f.toNat ≠ S r.t.toNat := fun h => hr (fun _ => h)
        obtain ⟨r1, r2, r3, r4⟩ := hin r hrm
        obtain ⟨s, v, hJ, hs, hv, hsN, hvN⟩ : ∃ s v, Joins2 r s v ∧ S s = true ∧ S v = false ∧ s < N ∧ v < N := by
          cases h1 : S r.f.toNat <;> cases h2 : S r.t.toNat
          · rw [h1, h2] at hne; exact absurd rfl hne
          · exact ⟨r.t.toNat, r.f.toNat, .inr ⟨by omega, by omega⟩, h2, h1, by omega, by omega⟩
          · exact ⟨r.f.toNat, r.t.toNat, .inl ⟨by omega, by omega⟩, h1, h2, by omega, by omega⟩
          · rw [h1, h2] at hne; exact absurd rfl hne
        obtain ⟨l1, l2, rfl⟩ := List.append_of_mem hrm
        have hp : (l1 ++ r :: l2).Perm (r :: (l1 ++ l2)) := List.perm_middle
        have hin' : InN N (l1 ++ l2) := fun x hx => hin x (by
          rcases List.mem_append.1 hx with h | h
          · exact List.mem_append_left _ h
          · exact List.mem_append_right _ (List.mem_cons_of_mem _ h))
        have hl' : (l1 ++ l2).length = n := by simp at hl ⊢; omega
        have := ih hl' hin' (Spn.ins hJ hs hsN hvN (h.perm hp))
        rw [cnt_ins hv, if_pos hvN] at this
        simp at hl this ⊢
        omega
/-- the number of a node when the nodes low and high have become one -/
def num2 (low high i : Int) : Int := if i = high then low else if high < i then i - 1 else i
/-- .. and back -/
def back2 (high j : Int) : Int := if j < high then j else j + 1
theorem num2_back {low high j : Int} (h : low < high) : num2 low high (back2 high j) = j := by unfold num2 back2; split <;> split <;> (try split) <;> omega
theorem back_num2 {low high i : Int} (h : low < high) : back2 high (num2 low high i) = if i = high then low else i := by
  unfold num2 back2
  by_cases e : i = high
  · rw [if_pos e, if_pos e, if_pos h]
  · rw [if_neg e, if_neg e]
    by_cases e2 : high < i
    · rw [if_pos e2, if_neg (by omega)]; omega
    · rw [if_neg e2, if_pos (by omega)]
theorem num2_in {N : Nat} {low high i : Int} (h0 : 0 ≤ low) (h1 : low < high) (h2 : high < (N : Int) + 1) (hi0 : 0 ≤ i) (hi : i < (N : Int) + 1) : 0 ≤ num2 low high i ∧ num2 low high i < N := by unfold num2; split <;> (try split) <;> omega
/-- a run behind a merge -/
def mv (low high : Int) (r : Rn) : Rn := { r with f := num2 low high r.f, t := num2 low high r.t }
/-- the runs behind a merge -/
def mrg (low high : Int) (rs : List Rn) : List Rn := (rs.map (mv low high)).filter (fun r => decide (r.f ≠ r.t))
theorem mv_loop {low high : Int} {r : Rn} (h : low < high) : (mv low high r).f = (mv low high r).t ↔ r.f = r.t ∨ (r.f = low ∧ r.t = high) ∨ (r.f = high ∧ r.t = low) := by
  show num2 low high r.f = num2 low high r.t ↔ _
  unfold num2
  split <;> split <;> (try split) <;> (try split) <;> omega
/-- linked as before -/
theorem Spn.merge {N : Nat} {low high : Int} {r : Rn} {T : List Rn} (h0 : 0 ≤ low) (h1 : low < high) (h2 : high < (N : Int) + 1) (hr : (r.f = low ∧ r.t = high) ∨ (r.f = high ∧ r.t = low)) : Spn (N + 1) S0 (r :: T) ↔ Spn N S0 (T.map (mv low high)) := by
  have hnn : ∀ i : Int, (i = high → num2 low high i = low) := fun i e => by unfold num2; rw [if_pos e]
  constructor
  · intro h φ hφ hz j hj
    have h3 := h (fun x => φ (num2 low high x)) (fun x hx => by
      rcases List.mem_cons.1 hx with e | e
      · subst e
        have a : num2 low high x.f = num2 low high x.t := (mv_loop h1).2 (.inr hr)
        rw [a]
      · exact hφ (mv low high x) (List.mem_map.2 ⟨x, e, rfl⟩)) (fun s hs hS => by
      have e : s = 0 := by simpa [S0] using hS
      subst e
      have : num2 low high ((0 : Nat) : Int) = 0 := by unfold num2; split <;> (try split) <;> omega
      rw [this]
      exact hz 0 (by omega) rfl)
    have hb : ∃ i : Nat, i < N + 1 ∧ (i : Int) = back2 high j := by
      refine ⟨(back2 high j).toNat, ?_, ?_⟩ <;> (unfold back2; split <;> omega)
    obtain ⟨i, hi, e⟩ := hb
    have := h3 i hi
    rw [e, num2_back h1] at this
    exact this
  · intro h φ hφ hz i hi
    have hlh : φ low ↔ φ high := by
      have := hφ r List.mem_cons_self
      rcases hr with ⟨a, b⟩ | ⟨a, b⟩ <;> rw [a, b] at this
      · exact this
      · exact this.symm
    have hbn : ∀ x : Int, φ (back2 high (num2 low high x)) ↔ φ x := fun x => by
      rw [back_num2 h1]
      by_cases e : x = high
      · rw [if_pos e, e]; exact hlh
      · rw [if_neg e]
    have h3 := h (fun x => φ (back2 high x)) (fun y hy => by
      obtain ⟨x, hx, rfl⟩ := List.mem_map.1 hy
      show φ (back2 high (num2 low high x.f)) ↔ φ (back2 high (num2 low high x.t))
      rw [hbn, hbn]
      exact hφ x (List.mem_cons_of_mem _ hx)) (fun s hs hS => by
      have e : s = 0 := by simpa [S0] using hS
      subst e
      have : back2 high ((0 : Nat) : Int) = ((0 : Nat) : Int) := by unfold back2; rw [if_pos (by omega)]
      rw [this]
      exact hz 0 (by omega) rfl)
    have hi2 := num2_in h0 h1 h2 (by omega : (0 : Int) ≤ i) (by omega)
    have h4 := h3 (num2 low high i).toNat (by omega)
    have e : (((num2 low high i).toNat : Nat) : Int) = num2 low high i := by omega
    rw [e] at h4
    exact fun c => h4 ((hbn i).2 c)
/-- what is a loop does not link -/
theorem Spn.filter {N : Nat} {S : Nat → Bool} {T : List Rn} : Spn N S (T.filter (fun r => decide (r.f ≠ r.t))) ↔ Spn N S T := by
  constructor
  · intro h φ hφ; exact h φ (fun r hr => hφ r (List.mem_filter.1 hr).1)
  · intro h φ hφ
    refine h φ (fun r hr => ?_)
    by_cases e : r.f = r.t
    · rw [e]
    · exact hφ r (List.mem_filter.2 ⟨hr, by simpa using e⟩)
/-- sums over the runs behind a merge -/
theorem sbw_merge {low high : Int} : ∀ {rs : List Rn} {P Q : List Rn → Prop}, (∀ T, (∀ r ∈ T, r ∈ rs) → (∃ r ∈ T, (mv low high r).f = (mv low high r).t) → ¬ P T) → (∀ T, (∀ r ∈ T, r ∈ rs) → (∀ r ∈ T, (mv low high r).f ≠ (mv low high r).t) → (P T ↔ Q (T.map (mv low high)))) → sbw rs P = sbw (mrg low high rs) Q
  | [], P, Q, _, h2 => by
    have e : P [] ↔ Q [] := h2 [] (fun r hr => by simp at hr) (fun r hr => by simp at hr)
    show sbw [] P = sbw [] Q
    unfold sbw
    by_cases hp : P []
    · rw [if_pos hp, if_pos (e.1 hp)]
    · rw [if_neg hp, if_neg (fun hq => hp (e.2 hq))]
  | r :: rs, P, Q, h1, h2 => by
    have sub : ∀ {T : List Rn}, (∀ x ∈ T, x ∈ rs) → ∀ x ∈ r :: T, x ∈ r :: rs := fun hT x hx => by
      rcases List.mem_cons.1 hx with e | e
      · rw [e]; exact List.mem_cons_self
      · exact List.mem_cons_of_mem _ (hT x e)
    have ih1 := sbw_merge (rs := rs) (P := P) (Q := Q) (fun T hT => h1 T (fun x hx => List.mem_cons_of_mem _ (hT x hx))) (fun T hT => h2 T (fun x hx => List.mem_cons_of_mem _ (hT x hx)))
    by_cases e : (mv low high r).f = (mv low high r).t
    · have e2 : mrg low high (r :: rs) = mrg low high rs := by unfold mrg; rw [List.map_cons, List.filter_cons]; simp [e]
      rw [e2]
      simp only [sbw]
      rw [ih1, sbw_none (P := fun T => P (r :: T)) (fun T hT => h1 (r :: T) (sub hT) ⟨r, List.mem_cons_self, e⟩)]
      simp
    · have e2 : mrg low high (r :: rs) = mv low high r :: mrg low high rs := by unfold mrg; rw [List.map_cons, List.filter_cons]; simp [e]
      rw [e2]
      simp only [sbw]
      rw [ih1, sbw_merge (rs := rs) (P := fun T => P (r :: T)) (Q := fun T => Q (mv low high r :: T)) (fun T hT ⟨x, hx, hl⟩ => h1 (r :: T) (sub hT) ⟨x, List.mem_cons_of_mem _ hx, hl⟩) (fun T hT hn => by
        refine h2 (r :: T) (sub hT) (fun x hx => ?_)
        rcases List.mem_cons.1 hx with c | c
        · rw [c]; exact e
        · exact hn x c)]
      rfl
/-- forests with a run are forests of the net in which its ends are one -/
theorem sbw_cut {N : Nat} {low high : Int} {r : Rn} {rs : List Rn} (h0 : 0 ≤ low) (h1 : low < high) (h2 : high < (N : Int) + 1) (hr : (r.f = low ∧ r.t = high) ∨ (r.f = high ∧ r.t = low)) (hin : InN (N + 1) rs) (hnl : ∀ x ∈ rs, x.f ≠ x.t) (hN : 1 ≤ N) : sbw rs (fun T => Frs (N + 1) S0 (r :: T)) = sbw (mrg low high rs) (Frs N S0) := by
  obtain ⟨M, rfl⟩ : ∃ M, N = M + 1 := ⟨N - 1, by omega⟩
  have hinr : 0 ≤ r.f ∧ r.f < ((M + 1 + 1 : Nat) : Int) ∧ 0 ≤ r.t ∧ r.t < ((M + 1 + 1 : Nat) : Int) := by rcases hr with ⟨a, b⟩ | ⟨a, b⟩ <;> rw [a, b] <;> omega
  refine sbw_merge (fun T hT ⟨x, hx, hl⟩ hF => ?_) (fun T hT hn => ?_)
  · have hx2 : (x.f = low ∧ x.t = high) ∨ (x.f = high ∧ x.t = low) := by
      rcases (mv_loop h1).1 hl with e | e
      · exact absurd e (hnl x (hT x hx))
      · exact e
    obtain ⟨l1, l2, rfl⟩ := List.append_of_mem hx
    have hs : Spn (M + 1 + 1) S0 (r :: (l1 ++ l2)) := fun φ hφ hz => by
      refine hF.2 φ (fun y hy => ?_) hz
      by_cases e : y = x
      · subst e
        have := hφ r List.mem_cons_self
        rcases hr with ⟨a, b⟩ | ⟨a, b⟩ <;> rcases hx2 with ⟨c, d⟩ | ⟨c, d⟩ <;> rw [a, b] at this <;> rw [c, d]
        · exact this
        · exact this.symm
        · exact this.symm
        · exact this
      · refine hφ y ?_
        rcases List.mem_cons.1 hy with h | h
        · rw [h]; exact List.mem_cons_self
        · refine List.mem_cons_of_mem _ ?_
          rcases List.mem_append.1 h with h | h
          · exact List.mem_append_left _ h
          · rcases List.mem_cons.1 h with h | h
            · exact absurd h e
            · exact List.mem_append_right _ h
    have := Spn.len _ rfl (fun y hy => by
      rcases List.mem_cons.1 hy with h | h
      · rw [h]; exact hinr
      · exact hin y (hT y (by
          rcases List.mem_append.1 h with h | h
          · exact List.mem_append_left _ h
          · exact List.mem_append_right _ (List.mem_cons_of_mem _ h)))) hs
    have hl2 := hF.1
    rw [cnt_S0] at this hl2
    simp at this hl2
    omega
  · unfold Frs
    rw [Spn.merge h0 h1 h2 hr, cnt_S0, cnt_S0, List.length_cons, List.length_map]
    exact and_congr_left (fun _ => by omega)
end Go.Proofs.YtoaomjchaihkaaaGreatDoor
namespace Go.Proofs.YtoaomjchaihkaaaGreatDoor
set_option linter.unusedVariables false

theorem lap_sym (rs : List Rn) (i j : Nat) : lap rs i j = lap rs j i := lsm_congr (fun r _ => by rw [Int.mul_comm (inc r i)])
theorem lap0_sym (rs : List Rn) (i j : Nat) : lap0 rs i j = lap0 rs j i := lap_sym rs _ _
theorem inc_small {r : Rn} (h : r.f ≠ r.t) (i j : Nat) : -1 ≤ inc r i * inc r j ∧ inc r i * inc r j ≤ 1 := by
  have h1 : ∀ k : Nat, inc r k = 1 ∨ inc r k = 0 ∨ inc r k = -1 := fun k => by
    unfold inc
    by_cases a : r.t = (k : Int)
    · rw [if_pos a, if_neg (by omega)]; omega
    · rw [if_neg a]; split <;> omega
  rcases h1 i with a | a | a <;> rcases h1 j with b | b | b <;> rw [a, b] <;> omega
theorem lsm_abs {rs : List Rn} {F : Rn → Int} {c : Int} (h : ∀ r ∈ rs, -c ≤ F r ∧ F r ≤ c) : -(rs.length * c) ≤ lsm rs F ∧ lsm rs F ≤ rs.length * c := by
  induction rs with
  | nil => simp [lsm]
  | cons r rs ih =>
    have h1 := h r (by simp)
    have h2 := ih (fun x hx => h x (List.mem_cons_of_mem _ hx))
    simp only [lsm, List.length_cons]
    rw [Int.natCast_succ, Int.add_mul, Int.one_mul]
    omega
theorem lap_low {rs : List Rn} (hf : ∀ r ∈ rs, r.f ≠ r.t ∧ 1 ≤ r.g ∧ r.g ≤ 9) (hl : rs.length ≤ 12) (i j : Nat) : -108 ≤ lap rs i j ∧ lap rs i j ≤ 108 := by
  have h := lsm_abs (rs := rs) (F := fun r => r.g * (inc r i * inc r j)) (c := 9) (fun r hr => by
    obtain ⟨h1, h2, h3⟩ := hf r hr
    have h4 := abs_mul (a := r.g) (b := inc r i * inc r j) (x := 9) (y := 1) (by omega) (inc_small h1 i j)
    omega)
  have : lap rs i j = lsm rs (fun r => r.g * (inc r i * inc r j)) := rfl
  rw [this]
  omega
theorem lap0_small {rs : List Rn} (n : Nat) (hf : ∀ r ∈ rs, r.f ≠ r.t ∧ 1 ≤ r.g ∧ r.g ≤ 9) (hl : rs.length ≤ 12) : SmE n 1000 (lap0 rs) := fun i j _ _ => by
  have := lap_low hf hl (i + 1) (j + 1)
  show -1000 ≤ lap rs (i + 1) (j + 1) ∧ lap rs (i + 1) (j + 1) ≤ 1000
  omega
/-- the matrix times heights: over the runs -/
theorem lap_apply {N : Nat} {rs : List Rn} (hin : InN N rs) (i : Nat) (x : Nat → Int) : smn N (fun k => lap rs i k * x k) = lsm rs (fun r => r.g * inc r i * (x r.t.toNat - x r.f.toNat)) := by
  rw [sm_congr (g := fun k => lsm rs (fun r => (r.g * inc r i) * (inc r k * x k))) (fun k _ => by
    unfold lap
    rw [lsm_mul]
    exact lsm_congr (fun r _ => by simp only [Int.mul_assoc])), smn_lsm]
  exact lsm_congr (fun r hr => by rw [sm_mul, inc_sum (hin r hr)])
/-- the sum of a row -/
theorem lap_row {N : Nat} {rs : List Rn} (hin : InN N rs) (i : Nat) : smn N (fun k => lap rs i k) = 0 := by
  have h := lap_apply hin i (fun _ => 1)
  rw [sm_congr (g := fun k => lap rs i k) (fun k _ => Int.mul_one _)] at h
  rw [h]
  exact lsm_zero (fun r _ => by rw [Int.sub_self, Int.mul_zero])
theorem lap0_row {n : Nat} {rs : List Rn} (hin : InN (n + 1) rs) (hf : ∀ r ∈ rs, r.f ≠ r.t) (i : Nat) : smn n (fun j => lap0 rs i j) = lsm rs (fun r => if (r.f = 0 ∧ r.t = (i : Int) + 1) ∨ (r.t = 0 ∧ r.f = (i : Int) + 1) then r.g else 0) := by
  have h := lap_row hin (i + 1)
  rw [sm_head] at h
  have e : lap rs (i + 1) 0 = -lsm rs (fun r => if (r.f = 0 ∧ r.t = (i : Int) + 1) ∨ (r.t = 0 ∧ r.f = (i : Int) + 1) then r.g else 0) := by
    have e1 : ∀ (l : List Rn) (F : Rn → Int), lsm l (fun r => -F r) = -lsm l F := fun l F => by
      induction l with
      | nil => rfl
      | cons r l ih => simp only [lsm]; rw [ih]; omega
    rw [← e1]
    refine lsm_congr (fun r hr => ?_)
    have hne := hf r hr
    unfold inc
    by_cases a : (r.f = 0 ∧ r.t = (i : Int) + 1) ∨ (r.t = 0 ∧ r.f = (i : Int) + 1)
    · rw [if_pos a]
      rcases a with ⟨b, c⟩ | ⟨b, c⟩
      · rw [if_pos (show r.t = ((i + 1 : Nat) : Int) by omega), if_neg (show ¬ r.f = ((i + 1 : Nat) : Int) by omega), if_neg (show ¬ r.t = ((0 : Nat) : Int) by omega), if_pos (show r.f = ((0 : Nat) : Int) by omega)]
        omega
      · rw [if_neg (show ¬ r.t = ((i + 1 : Nat) : Int) by omega), if_pos (show r.f = ((i + 1 : Nat) : Int) by omega), if_pos (show r.t = ((0 : Nat) : Int) by omega), if_neg (show ¬ r.f = ((0 : Nat) : Int) by omega)]
        omega
    · rw [if_neg a]
      by_cases b : r.t = ((i + 1 : Nat) : Int)
      · rw [if_pos b, if_neg (show ¬ r.t = ((0 : Nat) : Int) by omega), if_neg (show ¬ r.f = ((0 : Nat) : Int) by omega)]; simp
      · rw [if_neg b]
        by_cases c : r.f = ((i + 1 : Nat) : Int)
        · rw [if_pos c, if_neg (show ¬ r.t = ((0 : Nat) : Int) by omega), if_neg (show ¬ r.f = ((0 : Nat) : Int) by omega)]; simp
        · rw [if_neg c]; simp
  have h2 : smn n (fun j => lap0 rs i j) = smn n (fun k => lap rs (i + 1) (k + 1)) := rfl
  rw [h2]
  omega
/-- weights times rises -/
def srcs (rs : List Rn) (i : Nat) : Int := lsm rs (fun r => r.g * r.s * inc r i)
theorem srcs_low {rs : List Rn} (hf : ∀ r ∈ rs, r.f ≠ r.t ∧ 1 ≤ r.g ∧ r.g ≤ 9 ∧ -100000 ≤ r.s ∧ r.s ≤ 100000) (hl : rs.length ≤ 12) (i : Nat) : -10800000 ≤ srcs rs i ∧ srcs rs i ≤ 10800000 := by
  have h := lsm_abs (rs := rs) (F := fun r => r.g * r.s * inc r i) (c := 900000) (fun r hr => by
    obtain ⟨h1, h2, h3, h4, h5⟩ := hf r hr
    have h6 := abs_mul (a := r.g) (b := r.s) (x := 9) (y := 100000) (by omega) (by omega)
    have h7 : inc r i = 1 ∨ inc r i = 0 ∨ inc r i = -1 := by
      unfold inc
      by_cases a : r.t = (i : Int)
      · rw [if_pos a, if_neg (by omega)]; omega
      · rw [if_neg a]; split <;> omega
    rcases h7 with a | a | a <;> rw [a] <;> omega)
  have : srcs rs i = lsm rs (fun r => r.g * r.s * inc r i) := rfl
  rw [this]
  omega
/-- the source of the rises of heights is the matrix times these -/
theorem srcs_heights {n : Nat} {rs : List Rn} (hin : InN (n + 1) rs) (x : Nat → Int) (hs : ∀ r ∈ rs, r.s = x r.t.toNat - x r.f.toNat) (i : Nat) : srcs rs (i + 1) = smn n (fun j => lap0 rs i j * (x (j + 1) - x 0)) := by
  have h := lap_apply hin (i + 1) (fun k => x k - x 0)
  rw [sm_head, Int.sub_self, Int.mul_zero, Int.zero_add] at h
  have h2 : smn n (fun j => lap0 rs i j * (x (j + 1) - x 0)) = smn n (fun k => lap rs (i + 1) (k + 1) * (x (k + 1) - x 0)) := rfl
  rw [h2, h]
  refine lsm_congr (fun r hr => ?_)
  rw [hs r hr]
  have e : x r.t.toNat - x 0 - (x r.f.toNat - x 0) = x r.t.toNat - x r.f.toNat := by omega
  rw [e, Int.mul_assoc, Int.mul_assoc, Int.mul_comm (inc r (i + 1))]
theorem lsm_append (l l' : List Rn) (F : Rn → Int) : lsm (l ++ l') F = lsm l F + lsm l' F := by
  induction l with
  | nil => simp [lsm]
  | cons r l ih => rw [List.cons_append]; simp only [lsm]; rw [ih]; omega
theorem lsm_take {rs : List Rn} {k : Nat} {r : Rn} (h : rs[k]? = some r) (F : Rn → Int) : lsm (rs.take (k + 1)) F = lsm (rs.take k) F + F r := by
  rw [List.take_add_one, h, lsm_append]; simp [lsm]
theorem lsm_erase {rs : List Rn} {k : Nat} {r : Rn} (h : rs[k]? = some r) (F : Rn → Int) : lsm rs F = F r + lsm (rs.eraseIdx k) F := by
  have hl := (List.getElem?_eq_some_iff.1 h).1
  have e : rs = rs.take k ++ r :: rs.drop (k + 1) := by
    rw [← (List.getElem?_eq_some_iff.1 h).2, List.getElem_cons_drop, List.take_append_drop]
  rw [List.eraseIdx_eq_take_drop_succ, lsm_append]
  conv => lhs; rw [e]
  rw [lsm_append]
  simp only [lsm]; omega
theorem lsm_set {rs : List Rn} {k : Nat} {r r' : Rn} (h : rs[k]? = some r) (F : Rn → Int) : lsm (rs.set k r') F = lsm rs F - F r + F r' := by
  have hl := (List.getElem?_eq_some_iff.1 h).1
  have h1 := lsm_erase h F
  have h2 := lsm_erase (rs := rs.set k r') (k := k) (r := r') (by rw [List.getElem?_set, if_pos rfl, if_pos hl]) F
  rw [List.eraseIdx_set_eq] at h2
  omega
end Go.Proofs.YtoaomjchaihkaaaGreatDoor
namespace Go.Proofs.YtoaomjchaihkaaaGreatDoor
set_option linter.unusedVariables false

theorem ent_set {L : List (List Int)} {i : Nat} {r : List Int} (hi : i < L.length) (n j : Nat) : ent (L.set i r) n j = if n = i then num r j else ent L n j := by
  unfold ent
  by_cases e : n = i
  · subst e
    rw [if_pos rfl, rowL_at (r := r) (by rw [List.getElem?_set, if_pos rfl, if_pos hi])]
  · rw [if_neg e]
    congr 1
    unfold rowL
    first
      | rw [List.getElem?_set, if_neg (Ne.symm e)]
      | simp [List.getD, List.getElem?_set, Ne.symm e]
theorem matOk_set {L : List (List Int)} {i : Nat} {r : List Int} (h : matOk L = true) (hr : r ∈ L) : matOk (L.set i r) = true := by
  obtain ⟨h1, h2, h3⟩ := matOk_true.1 h
  refine matOk_true.2 ⟨by rw [List.length_set]; exact h1, by rw [List.length_set]; exact h2, fun x hx => ?_⟩
  rw [List.length_set]
  rcases List.mem_or_eq_of_mem_set hx with hx | rfl
  · exact h3 x hx
  · exact h3 _ hr
theorem matOk_set' {L : List (List Int)} {i : Nat} {r : List Int} (h : matOk L = true) (hr : r.length = L.length) (hx : ∀ x ∈ r, -1000 ≤ x ∧ x ≤ 1000) : matOk (L.set i r) = true := by
  obtain ⟨h1, h2, h3⟩ := matOk_true.1 h
  refine matOk_true.2 ⟨by rw [List.length_set]; exact h1, by rw [List.length_set]; exact h2, fun y hy => ?_⟩
  rw [List.length_set]
  rcases List.mem_or_eq_of_mem_set hy with hy | rfl
  · exact h3 y hy
  · exact ⟨hr, hx⟩
theorem det_swapL {L : List (List Int)} {r0 r1 : List Int} {k : Nat} (hk : L.length = k) (h2 : 1 < k) (h0 : L[0]? = some r0) (h1 : L[1]? = some r1) : det k (ent ((L.set 0 r1).set 1 r0)) = -det k (ent L) := by
  have e0 : ∀ j, ent L 0 j = num r0 j := fun j => by unfold ent; rw [rowL_at h0]
  have e1 : ∀ j, ent L 1 j = num r1 j := fun j => by unfold ent; rw [rowL_at h1]
  refine det_rows_swap (p := 0) (q := 1) _ _ (by omega) h2 (by omega) (fun i j hi hj => ?_)
  rw [ent_set (by rw [List.length_set]; omega), ent_set (by omega)]
  by_cases a : i = 1
  · subst a; simp [e0]
  · by_cases b : i = 0
    · subst b; simp [e1]
    · simp [a, b]
theorem det_sameL {L : List (List Int)} {r : List Int} {k : Nat} (hk : L.length = k) (h2 : 1 < k) : det k (ent ((L.set 1 r).set 0 r)) = 0 := by
  have a0 : ∀ j, ent ((L.set 1 r).set 0 r) 0 j = num r j := fun j => by rw [ent_set (by rw [List.length_set]; omega), if_pos rfl]
  have a1 : ∀ j, ent ((L.set 1 r).set 0 r) 1 j = num r j := fun j => by rw [ent_set (by rw [List.length_set]; omega), if_neg (by omega), ent_set (by omega), if_pos rfl]
  exact det_rows (p := 0) (q := 1) _ (by omega) h2 (by omega) (fun j hj => by rw [a0, a1])
theorem det_1 (a : Mx) : det 1 a = a 0 0 := by simp [det, smn, sgj]
end Go.Proofs.YtoaomjchaihkaaaGreatDoor
namespace Go.Proofs.YtoaomjchaihkaaaGreatDoor
set_option linter.unusedVariables false

/-- equal modulo 2 to the power of 64 -/
def Cg (x y : Int) : Prop := ∃ u : Int, x - y = 18446744073709551616 * u
theorem Cg.refl (x : Int) : Cg x x := ⟨0, by omega⟩
theorem Cg.of {x y : Int} (h : x = y) : Cg x y := h ▸ Cg.refl x
theorem Cg.symm {x y : Int} (h : Cg x y) : Cg y x := by obtain ⟨u, h⟩ := h; exact ⟨-u, by omega⟩
theorem Cg.trans {x y z : Int} (h : Cg x y) (k : Cg y z) : Cg x z := by obtain ⟨u, h⟩ := h; obtain ⟨v, k⟩ := k; exact ⟨u + v, by omega⟩
theorem Cg.add {x y a b : Int} (h : Cg x y) (k : Cg a b) : Cg (x + a) (y + b) := by obtain ⟨u, h⟩ := h; obtain ⟨v, k⟩ := k; exact ⟨u + v, by omega⟩
theorem Cg.sub {x y a b : Int} (h : Cg x y) (k : Cg a b) : Cg (x - a) (y - b) := by obtain ⟨u, h⟩ := h; obtain ⟨v, k⟩ := k; exact ⟨u - v, by omega⟩
theorem Cg.neg {x y : Int} (h : Cg x y) : Cg (-x) (-y) := by obtain ⟨u, h⟩ := h; exact ⟨-u, by omega⟩
theorem Cg.mul {x y a b : Int} (h : Cg x y) (k : Cg a b) : Cg (x * a) (y * b) := by
  obtain ⟨u, h⟩ := h; obtain ⟨v, k⟩ := k
  refine ⟨u * a + y * v, ?_⟩
  have e : x * a - y * b = (x - y) * a + y * (a - b) := by rw [Int.sub_mul, Int.mul_sub]; omega
  rw [e, h, k, Int.mul_add, Int.mul_assoc, Int.mul_left_comm y]
theorem Cg.wrap (x : Int) : Cg (IntKind.i64.wrap x) x := by
  rw [IntKind.wrap_i64]
  exact ⟨-((x + 9223372036854775808) / 18446744073709551616), by omega⟩
theorem Cg.eq {x y : Int} (h : Cg x y) (hx : -9223372036854775808 ≤ x ∧ x < 9223372036854775808) (hy : -9223372036854775808 ≤ y ∧ y < 9223372036854775808) : x = y := by
  obtain ⟨u, h⟩ := h; omega
theorem wrap_in (x : Int) : -9223372036854775808 ≤ IntKind.i64.wrap x ∧ IntKind.i64.wrap x < 9223372036854775808 := by rw [IntKind.wrap_i64]; omega
theorem wrap_id {x : Int} (h : -9223372036854775808 ≤ x ∧ x < 9223372036854775808) : IntKind.i64.wrap x = x := by rw [IntKind.wrap_i64]; omega
theorem smn_cg {n : Nat} {f g : Nat → Int} (h : ∀ i, i < n → Cg (f i) (g i)) : Cg (smn n f) (smn n g) := by
  induction n with
  | zero => exact Cg.refl _
  | succ n ih => simp only [smn]; exact (ih (fun i hi => h i (by omega))).add (h n (by omega))
theorem det_cg : ∀ {n : Nat} {a b : Mx}, (∀ i j, i < n → j < n → Cg (a i j) (b i j)) → Cg (det n a) (det n b)
  | 0, _, _, _ => Cg.refl _
  | n + 1, a, b, h => by
    show Cg (smn (n + 1) (fun j => sgj j * a 0 j * det n (mnr a j))) (smn (n + 1) (fun j => sgj j * b 0 j * det n (mnr b j)))
    exact smn_cg (fun j hj => ((Cg.refl _).mul (h 0 j (by omega) hj)).mul (det_cg (fun i k hi hk => h (i + 1) (skip j k) (by omega) (skip_lt hk hj))))
/-- the product of the first numbers of the diagonal -/
def dgp : Nat → Mx → Int
  | 0, _ => 1
  | n + 1, a => dgp n a * a n n
theorem dgp_front : ∀ (n : Nat) (a : Mx), dgp (n + 1) a = a 0 0 * dgp n (fun i j => a (i + 1) (j + 1))
  | 0, a => by simp [dgp]
  | n + 1, a => by rw [show dgp (n + 1 + 1) a = dgp (n + 1) a * a (n + 1) (n + 1) from rfl, dgp_front n a]; simp only [dgp, Int.mul_assoc]
theorem dgp_congr : ∀ {n : Nat} {a b : Mx}, (∀ i, i < n → a i i = b i i) → dgp n a = dgp n b
  | 0, _, _, _ => rfl
  | n + 1, a, b, h => by simp only [dgp]; rw [dgp_congr (fun i hi => h i (by omega)), h n (by omega)]
/-- nothing below the diagonal in the first columns -/
def Tri (k t : Nat) (a : Mx) : Prop := ∀ x y, y < t → y < x → x < k → a x y = 0
theorem det_tri : ∀ {n : Nat} {a : Mx}, Tri n n a → det n a = dgp n a
  | 0, _, _ => rfl
  | n + 1, a, h => by
    show smn (n + 1) (fun j => sgj j * a 0 j * det n (mnr a j)) = dgp (n + 1) a
    rw [sm_one (k := 0) (by omega) (fun j hj hne => ?_)]
    · rw [dgp_front, show sgj 0 = 1 from rfl, Int.one_mul]
      congr 1
      exact det_tri (n := n) (a := mnr a 0) (fun x y hy hxy hx => h (x + 1) (skip 0 y) (by unfold skip; simp; omega) (by unfold skip; simp; omega) (by omega))
    · have hn : 0 < n := by omega
      have hz : det n (mnr a j) = 0 := by
        have h1 := (det_is n).zero (mnr a j) hn
        rw [← h1]
        refine det_congr (fun r c hr hc => ?_)
        by_cases e : c = 0
        · subst e
          rw [upd_at]
          show a (r + 1) (skip j 0) = 0
          have : skip j 0 = 0 := by unfold skip; rw [if_pos (by omega)]
          rw [this]; exact h (r + 1) 0 (by omega) (by omega) (by omega)
        · rw [upd_ne e]
      show sgj j * a 0 j * det n (mnr a j) = 0
      rw [hz, Int.mul_zero]
/-- a row from which a multiple of another one is subtracted, and what wraps around does -/
def subR (k : Nat) (q : Int) (r o : List Int) : List Int := (List.range k).map (fun j => IntKind.i64.wrap (num r j - IntKind.i64.wrap (q * num o j)))
theorem subR_len (k : Nat) (q : Int) (r o : List Int) : (subR k q r o).length = k := by simp [subR]
theorem subR_num {k j : Nat} (q : Int) (r o : List Int) (h : j < k) : num (subR k q r o) j = IntKind.i64.wrap (num r j - IntKind.i64.wrap (q * num o j)) := num_map h _
/-- one step: row c becomes row i, and row i what is left of row c -/
def elim (k c i : Nat) (q : Int) (L : List (List Int)) : List (List Int) := (L.set c (rowL L i)).set i (subR k q (rowL L c) (rowL L i))
theorem elim_ent {k c i : Nat} {q : Int} {L : List (List Int)} (hs : Sq k L) (hc : c < i) (hi : i < k) (x y : Nat) (hy : y < k) :
    ent (elim k c i q L) x y = if x = i then IntKind.i64.wrap (ent L c y - IntKind.i64.wrap (q * ent L i y)) else if x = c then ent L i y else ent L x y := by
  unfold elim
  rw [ent_set (by rw [List.length_set, hs.1]; exact hi), ent_set (by rw [hs.1]; omega)]
  by_cases e : x = i
  · rw [if_pos e, if_pos e, subR_num _ _ _ hy]; rfl
  · rw [if_neg e, if_neg e]; rfl
theorem elim_sq {k c i : Nat} {q : Int} {L : List (List Int)} (hs : Sq k L) (hc : c < i) (hi : i < k) : Sq k (elim k c i q L) := by
  refine ⟨by unfold elim; rw [List.length_set, List.length_set, hs.1], fun r hr => ?_⟩
  rcases List.mem_or_eq_of_mem_set hr with h | h
  · rcases List.mem_or_eq_of_mem_set h with h | h
    · exact hs.2 r h
    · rw [h]; exact hs.row hi
  · rw [h]; exact subR_len _ _ _ _
theorem elim_det {k c i : Nat} {q : Int} {L : List (List Int)} (hs : Sq k L) (hc : c < i) (hi : i < k) : Cg (det k (ent (elim k c i q L))) (-det k (ent L)) := by
  let a1 : Mx := fun x y => if x = c then ent L c y + (-q) * ent L i y else ent L x y
  let a2 : Mx := fun x y => a1 (if x = i then c else if x = c then i else x) y
  have h1 : det k a1 = det k (ent L) := det_row_more (ent L) a1 (by omega) hi (by omega) (-q) (fun _ _ _ _ => rfl)
  have h2 : det k a2 = -det k a1 := det_rows_swap a1 a2 (p := c) (q := i) (by omega) hi (by omega) (fun _ _ _ _ => rfl)
  rw [← h1, ← h2]
  refine det_cg (fun x y hx hy => ?_)
  rw [elim_ent hs hc hi x y hy]
  show Cg _ (a1 (if x = i then c else if x = c then i else x) y)
  by_cases e : x = i
  · rw [if_pos e, if_pos e]
    show Cg _ (if c = c then ent L c y + (-q) * ent L i y else ent L c y)
    rw [if_pos rfl, Int.neg_mul, ← Int.sub_eq_add_neg]
    exact (Cg.wrap _).trans ((Cg.refl _).sub (Cg.wrap _))
  · rw [if_neg e, if_neg e]
    by_cases e2 : x = c
    · rw [if_pos e2, if_pos e2]
      show Cg _ (if i = c then ent L c y + (-q) * ent L i y else ent L i y)
      rw [if_neg (by omega)]; exact Cg.refl _
    · rw [if_neg e2, if_neg e2]
      show Cg _ (if x = c then ent L c y + (-q) * ent L i y else ent L x y)
      rw [if_neg e2]; exact Cg.refl _
/-- numbers of the type int -/
def In64 (k : Nat) (a : Mx) : Prop := ∀ x y, x < k → y < k → -9223372036854775808 ≤ a x y ∧ a x y < 9223372036854775808
/-- Euclid's step: what is left is less -/
theorem euclid {x y : Int} (hx : -9223372036854775808 ≤ x ∧ x < 9223372036854775808) (hy : -9223372036854775808 ≤ y ∧ y < 9223372036854775808) (h0 : y ≠ 0) :
    (IntKind.i64.wrap (x - IntKind.i64.wrap (IntKind.i64.wrap (x.tdiv y) * y))).natAbs < y.natAbs := by
  have h1 : Cg (IntKind.i64.wrap (x - IntKind.i64.wrap (IntKind.i64.wrap (x.tdiv y) * y))) (x - x.tdiv y * y) := (Cg.wrap _).trans ((Cg.refl _).sub ((Cg.wrap _).trans ((Cg.wrap _).mul (Cg.refl _))))
  have h2 : x - x.tdiv y * y = x.tmod y := by have := Int.tmod_add_tdiv_mul x y; omega
  rw [h2] at h1
  have h3 : (x.tmod y).natAbs < y.natAbs := by rw [Int.natAbs_tmod]; exact Nat.mod_lt _ (by omega)
  have h4 := h1.eq (wrap_in _) (by omega)
  rw [h4]; exact h3
/-- rows in the midst of clearing column c, as far as row i -/
structure Elm (k c i : Nat) (L0 L : List (List Int)) (s : Int) : Prop where
  sq : Sq k L
  rng : In64 k (ent L)
  sgn : s = 1 ∨ s = -1
  dt : Cg (det k (ent L0)) (s * det k (ent L))
  top : ∀ x y, x < c → y < k → ent L x y = ent L0 x y
  tri : Tri k c (ent L)
  cl : ∀ x, c < x → x < i → ent L x c = 0
theorem Elm.start {k c : Nat} {L : List (List Int)} (hs : Sq k L) (hr : In64 k (ent L)) (ht : Tri k c (ent L)) : Elm k c (c + 1) L L 1 :=
  ⟨hs, hr, .inl rfl, Cg.of (by omega), fun _ _ _ _ => rfl, ht, fun x h1 h2 => by omega⟩
theorem Elm.next {k c i : Nat} {L0 L : List (List Int)} {s : Int} (h : Elm k c i L0 L s) (hz : ent L i c = 0) : Elm k c (i + 1) L0 L s :=
  ⟨h.sq, h.rng, h.sgn, h.dt, h.top, h.tri, fun x h1 h2 => by
    by_cases e : x = i
    · subst e; exact hz
    · exact h.cl x h1 (by omega)⟩
theorem Elm.step {k c i : Nat} {L0 L : List (List Int)} {s : Int} (h : Elm k c i L0 L s) (hc : c < i) (hi : i < k) (q : Int) : Elm k c i L0 (elim k c i q L) (-s) := by
  have hw : IntKind.i64.wrap (0 - IntKind.i64.wrap (q * 0)) = 0 := by rw [Int.mul_zero, IntKind.wrap_i64, IntKind.wrap_i64]; rfl
  refine ⟨elim_sq h.sq hc hi, fun x y hx hy => ?_, by have := h.sgn; omega, ?_, fun x y hx hy => ?_, fun x y hy hxy hx => ?_, fun x h1 h2 => ?_⟩
  · rw [elim_ent h.sq hc hi x y hy]
    split
    · exact wrap_in _
    · split
      · exact h.rng i y hi hy
      · exact h.rng x y hx hy
  · have h1 := (Cg.refl s).mul (elim_det h.sq hc hi (q := q)).neg
    rw [Int.neg_neg] at h1
    refine h.dt.trans (h1.symm.trans (Cg.of ?_))
    rw [Int.neg_mul, Int.mul_neg]
  · rw [elim_ent h.sq hc hi x y hy, if_neg (by omega), if_neg (by omega)]; exact h.top x y hx hy
  · rw [elim_ent h.sq hc hi x y (by omega)]
    split
    · rw [h.tri c y hy (by omega) (by omega), h.tri i y hy (by omega) hi]; exact hw
    · split
      · exact h.tri i y hy (by omega) hi
      · exact h.tri x y hy hxy hx
  · rw [elim_ent h.sq hc hi x c (by omega), if_neg (by omega), if_neg (by omega)]; exact h.cl x h1 h2
theorem Elm.less {k c i : Nat} {L0 L : List (List Int)} {s : Int} (h : Elm k c i L0 L s) (hc : c < i) (hi : i < k) (h0 : ent L i c ≠ 0) :
    (ent (elim k c i (IntKind.i64.wrap ((ent L c c).tdiv (ent L i c))) L) i c).natAbs < (ent L i c).natAbs := by
  rw [elim_ent h.sq hc hi i c (by omega), if_pos rfl]
  exact euclid (h.rng c c (by omega) (by omega)) (h.rng i c hi (by omega)) h0
/-- rows of which the first columns are cleared, and the product so far -/
structure Drm (k t : Nat) (D : Int) (L : List (List Int)) (p : Int) : Prop where
  sq : Sq k L
  rng : In64 k (ent L)
  tri : Tri k t (ent L)
  dt : ∃ s : Int, Cg D (s * det k (ent L)) ∧ Cg p (s * dgp t (ent L))
  pr : -9223372036854775808 ≤ p ∧ p < 9223372036854775808
theorem Drm.start {k : Nat} {L : List (List Int)} (hs : Sq k L) (hr : In64 k (ent L)) : Drm k 0 (det k (ent L)) L 1 :=
  ⟨hs, hr, fun x y h => by omega, ⟨1, Cg.of (by omega), Cg.of (by simp [dgp])⟩, by omega⟩
theorem Drm.next {k t : Nat} {D p s : Int} {L L' : List (List Int)} (h : Drm k t D L p) (ht : t < k) (he : Elm k t k L L' s) :
    Drm k (t + 1) D L' (IntKind.i64.wrap (IntKind.i64.wrap (p * s) * ent L' t t)) := by
  obtain ⟨s0, h1, h2⟩ := h.dt
  refine ⟨he.sq, he.rng, fun x y hy hxy hx => ?_, ⟨s0 * s, ?_, ?_⟩, wrap_in _⟩
  · by_cases e : y = t
    · subst e; exact he.cl x hxy hx
    · exact he.tri x y (by omega) hxy hx
  · refine h1.trans ?_
    rw [Int.mul_assoc]
    exact (Cg.refl s0).mul he.dt
  · have e1 : dgp t (ent L') = dgp t (ent L) := dgp_congr (fun i hi => he.top i i hi (by omega))
    refine ((Cg.wrap _).trans ((Cg.wrap _).mul (Cg.refl _))).trans ?_
    simp only [dgp]
    rw [e1]
    have h3 := (h2.mul (Cg.refl s)).mul (Cg.refl (ent L' t t))
    refine h3.trans (Cg.of ?_)
    simp only [Int.mul_assoc, Int.mul_comm]
theorem Drm.done {k : Nat} {D p : Int} {L : List (List Int)} (h : Drm k k D L p) (hD : -9223372036854775808 ≤ D ∧ D < 9223372036854775808) : p = D := by
  obtain ⟨s, h1, h2⟩ := h.dt
  rw [← det_tri h.tri] at h2
  exact (h2.trans h1.symm).eq h.pr hD
end Go.Proofs.YtoaomjchaihkaaaGreatDoor
