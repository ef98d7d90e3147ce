/-
  There is one determinant: rows and columns exchanged, products, rows, and columns replaced by a list (Cramer). No function of the program is named.
-/
import Derived.Test.YthpfhbogpnhgmaaDt
namespace Go.Proofs.Ythpfhbogpnhgmaa
set_option linter.unusedVariables false

section
variable {n : Nat} {F : Mx → Int}
theorem Alt.zero (h : Alt n F) (a : Mx) {c : Nat} (hc : c < n) : F (upc a c (fun _ => 0)) = 0 := by
  have := h.lin a c (fun _ => 0) (fun _ => 0) 0 0 hc
  simpa using this
theorem Alt.scale (h : Alt n F) (a : Mx) {c : Nat} (hc : c < n) (x : Int) (u : Nat → Int) : F (upc a c (fun i => x * u i)) = x * F (upc a c u) := by
  have := h.lin a c u u x 0 hc
  simpa using this
theorem Alt.sum (h : Alt n F) (a : Mx) {c : Nat} (hc : c < n) (x : Nat → Int) (u : Nat → Nat → Int) (m : Nat) : F (upc a c (fun r => smn m (fun i => x i * u i r))) = smn m (fun i => x i * F (upc a c (u i))) := by
  induction m with
  | zero => simp only [smn]; exact h.zero a hc
  | succ m ih =>
    simp only [smn]
    have := h.lin a c (fun r => smn m (fun i => x i * u i r)) (u m) 1 (x m) hc
    simp only [Int.one_mul] at this
    rw [this, ih]
theorem Alt.swap (h : Alt n F) (a : Mx) {p q : Nat} (hp : p < n) (hq : q < n) (hne : p ≠ q) : F (swc a p q) = -F a :=
  lin_swap h.lin p q hp hq hne (fun b hb => by
    rcases Nat.lt_or_gt_of_ne hne with hlt | hlt
    · exact h.alt b p q hlt hq hb
    · exact h.alt b q p hlt hp (fun i hi => (hb i hi).symm)) a
/-- a multiple of another column put on -/
theorem Alt.more (h : Alt n F) (a : Mx) {c d : Nat} (hc : c < n) (hd : d < n) (hne : c ≠ d) (x : Int) : F (upc a c (fun i => a i c + x * a i d)) = F a := by
  have h1 := h.lin a c (fun i => a i c) (fun i => a i d) 1 x hc
  simp only [Int.one_mul] at h1
  have h2 : F (upc a c (fun i => a i d)) = 0 := by
    rcases Nat.lt_or_gt_of_ne hne with hlt | hlt
    · exact h.alt _ c d hlt hd (fun i _ => by rw [upd_at, upd_ne (Ne.symm hne)])
    · exact h.alt _ d c hlt hc (fun i _ => by rw [upd_at, upd_ne (Ne.symm hne)])
  rw [h1, h2, upd_self]; omega
end
/-- where a row is after another one has been left out: the matrix with a unit column put in front -/
def fro (i : Nat) (b : Mx) : Mx := fun r j => if j = 0 then (if r = i then 1 else 0) else (if r = i then 0 else b (bck i r) (j - 1))
theorem fro_zero (i : Nat) (b : Mx) (r : Nat) : fro i b r 0 = if r = i then 1 else 0 := if_pos rfl
theorem fro_succ (i : Nat) (b : Mx) (r j : Nat) : fro i b r (j + 1) = if r = i then 0 else b (bck i r) j := by unfold fro; rw [if_neg (by omega)]; rfl
theorem fro_upd (i : Nat) (b : Mx) (c : Nat) (v : Nat → Int) : fro i (upc b c v) = upc (fro i b) (c + 1) (fun r => if r = i then 0 else v (bck i r)) := by
  funext r j
  cases j with
  | zero => rw [fro_zero, upd_ne (by omega), fro_zero]
  | succ j =>
    rw [fro_succ]
    by_cases e : j = c
    · subst e; rw [upd_at, upd_at]
    · rw [upd_ne (a := b) e, upd_ne (by omega), fro_succ]
theorem Alt.inner {n : Nat} {F : Mx → Int} (h : Alt (n + 1) F) {i : Nat} (hi : i < n + 1) : Alt n (fun b => F (fro i b)) := by
  refine ⟨fun a b he => h.congr _ _ (fun r j hr hj => ?_), fun a c u v x y hc => ?_, fun a p q hpq hq he => ?_⟩
  · cases j with
    | zero => rw [fro_zero, fro_zero]
    | succ j =>
      rw [fro_succ, fro_succ]
      by_cases e : r = i
      · rw [if_pos e, if_pos e]
      · rw [if_neg e, if_neg e, he _ _ (back_lt e hr hi) (by omega)]
  · show F (fro i _) = x * F (fro i _) + y * F (fro i _)
    rw [fro_upd, fro_upd, fro_upd, ← h.lin _ _ _ _ _ _ (by omega)]
    congr 2
    funext r
    by_cases e : r = i
    · simp [e]
    · simp [e]
  · refine h.alt _ (p + 1) (q + 1) (by omega) (by omega) (fun r hr => ?_)
    rw [fro_succ, fro_succ]
    by_cases e : r = i
    · rw [if_pos e, if_pos e]
    · rw [if_neg e, if_neg e]; exact he _ (back_lt e hr hi)
/-- the unit column in front, one row cleared in the first m columns behind it -/
def clr (i m : Nat) (a : Mx) : Mx := fun r j => if j = 0 then (if r = i then 1 else 0) else if j ≤ m ∧ r = i then 0 else a r j
theorem clr_step {n : Nat} {F : Mx → Int} (h : Alt (n + 1) F) (a : Mx) {i m : Nat} (hm : m + 1 < n + 1) : F (clr i (m + 1) a) = F (clr i m a) := by
  rw [← h.more (clr i m a) (c := m + 1) (d := 0) hm (by omega) (by omega) (-a i (m + 1))]
  refine h.congr _ _ (fun r j hr hj => ?_)
  by_cases e : j = m + 1
  · subst e
    rw [upd_at]
    unfold clr
    by_cases e' : r = i
    · simp [e']; omega
    · simp [e']
  · rw [upd_ne e]
    unfold clr
    have hle : j ≤ m + 1 ↔ j ≤ m := by omega
    simp only [hle]
theorem clr_all {n : Nat} {F : Mx → Int} (h : Alt (n + 1) F) (a : Mx) {i : Nat} : ∀ m : Nat, m < n + 1 → F (clr i m a) = F (clr i 0 a)
  | 0, _ => rfl
  | m + 1, hm => (clr_step h a hm).trans (clr_all h a m (by omega))
/-- rows and columns exchanged -/
def trn (a : Mx) : Mx := fun i j => a j i
/-- without a row and the first column -/
def mnc (a : Mx) (i : Nat) : Mx := fun r c => a (skip i r) (c + 1)
/-- unit columns, the i-th one in front -/
def uni (i : Nat) : Mx := fun r j => if j = 0 then (if r = i then 1 else 0) else if j ≤ i then (if r + 1 = j then 1 else 0) else (if r = j then 1 else 0)
theorem uni_sign {n : Nat} {F : Mx → Int} (h : Alt n F) : ∀ i : Nat, i < n → F (uni i) = sgj i * F one
  | 0, hi => by
    rw [sg_zero, Int.one_mul]
    refine h.congr _ _ (fun r j hr hj => ?_)
    unfold uni one
    by_cases e : j = 0
    · subst e; rw [if_pos rfl]
    · rw [if_neg e, if_neg (by omega)]
  | i + 1, hi => by
    have h1 := h.swap (uni i) (p := 0) (q := i + 1) (by omega) hi (by omega)
    have h2 : F (uni (i + 1)) = F (swc (uni i) 0 (i + 1)) := h.congr _ _ (fun r j hr hj => by
      unfold swc
      by_cases e : j = i + 1
      · subst e
        rw [upd_at]
        unfold uni
        simp
      · rw [upd_ne e]
        by_cases e0 : j = 0
        · subst e0
          rw [upd_at]
          unfold uni
          simp
          intro hh
          omega
        · rw [upd_ne e0]
          unfold uni
          have hle : j ≤ i + 1 ↔ j ≤ i := by omega
          simp only [e0, hle, if_false])
    rw [h2, h1, uni_sign h i (by omega), sg_succ, Int.neg_mul]
/-- there is one such function, but for a factor -/
theorem Alt.unique {n : Nat} : ∀ {F : Mx → Int}, Alt n F → ∀ a, F a = F one * det n (trn a) := by
  induction n with
  | zero => intro F h a; rw [h.congr a one (fun i j hi => by omega)]; simp [det]
  | succ n ih =>
    intro F h a
    have e1 : F a = F (upc a 0 (fun r => smn (n + 1) (fun i => a i 0 * (if r = i then 1 else 0)))) := h.congr _ _ (fun r j hr hj => by
      by_cases e : j = 0
      · subst e
        rw [upd_at, sm_one hr (fun i hi hne => by rw [if_neg (Ne.symm hne), Int.mul_zero]), if_pos rfl, Int.mul_one]
      · rw [upd_ne e])
    rw [e1, h.sum a (by omega)]
    simp only [det]
    rw [← sm_mul]
    refine sm_congr (fun i hi => ?_)
    have e2 : F (upc a 0 (fun r => if r = i then 1 else 0)) = F (fro i (mnc a i)) := by
      have e3 : F (upc a 0 (fun r => if r = i then 1 else 0)) = F (clr i 0 a) := h.congr _ _ (fun r j hr hj => by
        unfold clr
        by_cases e : j = 0
        · subst e; rw [upd_at, if_pos rfl]
        · rw [upd_ne e, if_neg e, if_neg (by omega)])
      rw [e3, ← clr_all h a n (by omega)]
      refine h.congr _ _ (fun r j hr hj => ?_)
      cases j with
      | zero => rw [fro_zero]; exact if_pos rfl
      | succ j =>
        rw [fro_succ]
        unfold clr
        rw [if_neg (by omega)]
        by_cases e : r = i
        · rw [if_pos ⟨by omega, e⟩, if_pos e]
        · rw [if_neg (fun hh => e hh.2), if_neg e]
          show _ = a (skip i (bck i r)) (j + 1)
          rw [skip_back e]
    have e4 := ih (h.inner hi) (mnc a i)
    have e5 : F (fro i one) = F (uni i) := h.congr _ _ (fun r j hr hj => by
      cases j with
      | zero => rw [fro_zero]; exact (if_pos rfl).symm
      | succ j =>
        rw [fro_succ]
        unfold uni one bck
        repeat' split
        all_goals first | rfl | omega)
    rw [e2]
    have e6 : F (fro i (mnc a i)) = F (fro i one) * det n (trn (mnc a i)) := e4
    rw [e6, e5, uni_sign h i hi]
    show _ = F one * (sgj i * a i 0 * det n (mnr (trn a) i))
    have e7 : mnr (trn a) i = trn (mnc a i) := rfl
    rw [e7]
    simp only [Int.mul_assoc, Int.mul_comm, Int.mul_left_comm]
/-- promise 40: rows and columns exchanged -/
theorem det_trn (n : Nat) (a : Mx) : det n (trn a) = det n a := by
  have := (det_is n).unique a
  rw [det_one, Int.one_mul] at this
  exact this.symm
/-- a product -/
def mul (n : Nat) (a b : Mx) : Mx := fun i j => smn n (fun k => a i k * b k j)
theorem mul_upd (n : Nat) (a b : Mx) (c : Nat) (v : Nat → Int) : mul n a (upc b c v) = upc (mul n a b) c (fun i => smn n (fun k => a i k * v k)) := by
  funext i j
  unfold mul
  by_cases e : j = c
  · subst e; rw [upd_at]; exact sm_congr (fun k _ => by rw [upd_at])
  · rw [upd_ne e]; exact sm_congr (fun k _ => by rw [upd_ne e])
/-- promise 42 -/
theorem det_mul (n : Nat) (a b : Mx) : det n (mul n a b) = det n a * det n b := by
  have hA : Alt n (fun b => det n (mul n a b)) := by
    refine ⟨fun x y he => det_congr (fun i j hi hj => sm_congr (fun k hk => by rw [he k j hk hj])), fun x c u v s t hc => ?_, fun x p q hpq hq he => (det_is n).alt _ p q hpq hq (fun i hi => sm_congr (fun k hk => by rw [he k hk]))⟩
    show det n (mul n a _) = s * det n (mul n a _) + t * det n (mul n a _)
    rw [mul_upd, mul_upd, mul_upd, ← det_lin _ _ _ _ _ _ hc]
    congr 2
    funext i
    rw [← sm_lin]
    exact sm_congr (fun k _ => by rw [Int.mul_add]; congr 1 <;> simp only [Int.mul_left_comm])
  have h1 := hA.unique b
  rw [det_trn] at h1
  have h2 : det n (mul n a one) = det n a := det_congr (fun i j hi hj => by
    show smn n (fun k => a i k * (if k = j then 1 else 0)) = a i j
    rw [sm_one hj (fun k _ hne => by rw [if_neg hne, Int.mul_zero]), if_pos rfl, Int.mul_one])
  rw [← h2]; exact h1
theorem mul_trn (n : Nat) (a b : Mx) : trn (mul n a b) = mul n (trn b) (trn a) := by
  funext i j
  exact sm_congr (fun k _ => Int.mul_comm _ _)
/-- a row replaced -/
def upr (a : Mx) (r : Nat) (v : Nat → Int) : Mx := fun i j => if i = r then v j else a i j
theorem trn_upr (a : Mx) (r : Nat) (v : Nat → Int) : trn (upr a r v) = upc (trn a) r v := rfl
/-- two rows that are equal -/
theorem det_rows {n : Nat} (a : Mx) {p q : Nat} (hp : p < n) (hq : q < n) (hne : p ≠ q) (he : ∀ j, j < n → a p j = a q j) : det n a = 0 := by
  rw [← det_trn]
  rcases Nat.lt_or_gt_of_ne hne with h | h
  · exact (det_is n).alt _ p q h hq he
  · exact (det_is n).alt _ q p h hp (fun i hi => (he i hi).symm)
/-- two rows exchanged -/
theorem det_rows_swap {n : Nat} (a b : Mx) {p q : Nat} (hp : p < n) (hq : q < n) (hne : p ≠ q) (h : ∀ i j, i < n → j < n → b i j = a (if i = q then p else if i = p then q else i) j) : det n b = -det n a := by
  rw [← det_trn n b, ← det_trn n a, ← (det_is n).swap (trn a) hp hq hne]
  refine det_congr (fun i j hi hj => ?_)
  show b j i = swc (trn a) p q i j
  rw [h j i hj hi]
  unfold swc
  by_cases e : j = q
  · subst e; rw [upd_at, if_pos rfl]; rfl
  · rw [upd_ne e, if_neg e]
    by_cases e' : j = p
    · subst e'; rw [upd_at, if_pos rfl]; rfl
    · rw [upd_ne e', if_neg e']; rfl
/-- promise 41: a row put on another one; a row twice as great -/
theorem det_row_more {n : Nat} (a b : Mx) {r d : Nat} (hr : r < n) (hd : d < n) (hne : r ≠ d) (x : Int) (h : ∀ i j, i < n → j < n → b i j = if i = r then a r j + x * a d j else a i j) : det n b = det n a := by
  rw [← det_trn n b, ← det_trn n a, ← (det_is n).more (trn a) hr hd hne x]
  refine det_congr (fun i j hi hj => ?_)
  show b j i = _
  rw [h j i hj hi]
  by_cases e : j = r
  · subst e; rw [if_pos rfl, upd_at]; rfl
  · rw [if_neg e, upd_ne e]; rfl
theorem det_row_scale {n : Nat} (a b : Mx) {r : Nat} (hr : r < n) (x : Int) (h : ∀ i j, i < n → j < n → b i j = if i = r then x * a r j else a i j) : det n b = x * det n a := by
  have h1 := (det_is n).scale (trn a) hr x (fun i => a r i)
  have h2 : upc (trn a) r (fun i => a r i) = trn a := upd_self (trn a) r
  rw [h2] at h1
  rw [← det_trn n b, ← det_trn n a, ← h1]
  refine det_congr (fun i j hi hj => ?_)
  show b j i = _
  rw [h j i hj hi]
  by_cases e : j = r
  · subst e; rw [if_pos rfl, upd_at]
  · rw [if_neg e, upd_ne e]; rfl
/-- promise 44: a column replaced by what the matrix makes of x -/
theorem cramer_back {n : Nat} (a : Mx) {c : Nat} (hc : c < n) (x : Nat → Int) : det n (upc a c (fun i => smn n (fun k => a i k * x k))) = x c * det n a := by
  have e : (fun i => smn n (fun k => a i k * x k)) = (fun i => smn n (fun k => x k * a i k)) := by
    funext i; exact sm_congr (fun k _ => Int.mul_comm _ _)
  rw [e, (det_is n).sum a hc x (fun k i => a i k) n, sm_one hc (fun k hk hne => ?_)]
  · rw [show upc a c (fun i => a i c) = a from upd_self a c]
  · have : det n (upc a c (fun i => a i k)) = 0 := by
      rcases Nat.lt_or_gt_of_ne hne with h | h
      · exact (det_is n).alt _ k c h hc (fun i _ => by rw [upd_at, upd_ne hne])
      · exact (det_is n).alt _ c k h hk (fun i _ => by rw [upd_at, upd_ne hne])
    rw [this, Int.mul_zero]
/-- b ahead of column s, column t left out (s ≤ t) -/
def put (a : Mx) (b : Nat → Int) (s t : Nat) : Mx := fun i j => if j < s then a i j else if j = s then b i else if j ≤ t then a i (j - 1) else a i j
theorem put_end (a : Mx) (b : Nat → Int) (t : Nat) : put a b t t = upc a t b := by
  funext i j
  unfold put upc
  by_cases e : j = t
  · subst e; rw [if_neg (by omega), if_pos rfl, if_pos rfl]
  · rw [if_neg e]
    by_cases h : j < t
    · rw [if_pos h, if_neg e]
    · rw [if_neg h, if_neg e, if_neg (by omega)]
theorem put_step {n : Nat} (a : Mx) (b : Nat → Int) {s t : Nat} (hs : s < t) (ht : t < n) : det n (put a b s t) = -det n (put a b (s + 1) t) := by
  rw [← (det_is n).swap (put a b (s + 1) t) (p := s) (q := s + 1) (by omega) (by omega) (by omega)]
  refine det_congr (fun i j hi hj => ?_)
  unfold swc
  by_cases e : j = s + 1
  · subst e
    rw [upd_at]
    unfold put
    rw [if_neg (by omega), if_neg (by omega), if_pos (by omega), if_pos (by omega)]
    rfl
  · rw [upd_ne e]
    by_cases e' : j = s
    · subst e'
      rw [upd_at]
      unfold put
      rw [if_neg (by omega), if_pos rfl, if_neg (by omega), if_pos rfl]
    · rw [upd_ne e']
      unfold put
      by_cases h : j < s
      · rw [if_pos h, if_pos (by omega)]
      · have h' : ¬ j < s + 1 := by omega
        simp only [h, e', e, h', if_false]
theorem put_front {n : Nat} (a : Mx) (b : Nat → Int) {t : Nat} (ht : t < n) : ∀ d : Nat, d ≤ t → det n (put a b (t - d) t) = sgj d * det n (upc a t b)
  | 0, _ => by rw [Nat.sub_zero, put_end, sg_zero, Int.one_mul]
  | d + 1, hd => by
    rw [put_step a b (s := t - (d + 1)) (by omega) ht, show t - (d + 1) + 1 = t - d by omega, put_front a b ht d (by omega), sg_succ, Int.neg_mul]
/-- promise 44: the equations hold -/
theorem cramer {n : Nat} (a : Mx) (b : Nat → Int) {i : Nat} (hi : i < n) : smn n (fun t => a i t * det n (upc a t b)) = b i * det n a := by
  -- the list in front, and the row i of it on top
  obtain ⟨c, hc⟩ : ∃ c : Mx, c = fun r j => if r = 0 then (if j = 0 then b i else a i (j - 1)) else (if j = 0 then b (r - 1) else a (r - 1) (j - 1)) := ⟨_, rfl⟩
  have h0 : det (n + 1) c = 0 := det_rows c (p := 0) (q := i + 1) (by omega) (by omega) (by omega) (fun j hj => by rw [hc]; simp)
  simp only [det] at h0
  rw [sm_head] at h0
  have e0 : det n (mnr c 0) = det n a := det_congr (fun r j hr hj => by
    show c (r + 1) (skip 0 j) = _
    rw [show skip 0 j = j + 1 from if_neg (by omega), hc]
    simp)
  have e1 : ∀ t, t < n → sgj (t + 1) * c 0 (t + 1) * det n (mnr c (t + 1)) = -(a i t * det n (upc a t b)) := by
    intro t ht
    have e2 : det n (mnr c (t + 1)) = det n (put a b 0 t) := det_congr (fun r j hr hj => by
      show c (r + 1) (skip (t + 1) j) = _
      rw [hc]
      unfold skip put
      by_cases h : j = 0
      · subst h; simp
      · by_cases h' : j ≤ t
        · have h2 : j < t + 1 := by omega
          simp [h, h', h2]
        · have h2 : ¬ j < t + 1 := by omega
          simp [h, h', h2])
    have e3 := put_front a b ht t (Nat.le_refl _)
    rw [Nat.sub_self] at e3
    rw [e2, e3, sg_succ]
    have e4 : c 0 (t + 1) = a i t := by rw [hc]; simp
    rw [e4]
    have := sg_sq t
    have e5 : -sgj t * a i t * (sgj t * det n (upc a t b)) = -(sgj t * sgj t * (a i t * det n (upc a t b))) := by
      rw [Int.neg_mul, Int.neg_mul]
      congr 1
      simp only [Int.mul_assoc, Int.mul_left_comm]
    rw [e5, this, Int.one_mul]
  rw [sm_congr (g := fun t => -(a i t * det n (upc a t b))) e1, sm_neg, e0, sg_zero] at h0
  have e6 : c 0 0 = b i := by rw [hc]; simp
  rw [e6] at h0
  rw [Int.one_mul] at h0
  omega
end Go.Proofs.Ythpfhbogpnhgmaa
