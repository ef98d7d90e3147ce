/-
  Determinants modulo 2 to the power of 64, and elimination by Euclid's steps on whole rows whose numbers wrap around. No function of the program is named.
-/
import Derived.Test.YthpfhbogpnhgmaaDv
import Derived.Laws.BitsLemmas
namespace Go.Proofs.Ythpfhbogpnhgmaa
set_option linter.unusedVariables false

/-- equal modulo 2 to the power of 64 -/
def Cg (x y : Int) : Prop := ∃ u : Int, x - y = 18446744073709551616 * u
theorem Cg.refl (x : Int) : Cg x x := ⟨0, by omega⟩
theorem Cg.of {x y : Int} (h : x = y) : Cg x y := h ▸ Cg.refl x
theorem Cg.symm {x y : Int} (h : Cg x y) : Cg y x := by obtain ⟨u, h⟩ := h; exact ⟨-u, by omega⟩
theorem Cg.trans {x y z : Int} (h : Cg x y) (k : Cg y z) : Cg x z := by obtain ⟨u, h⟩ := h; obtain ⟨v, k⟩ := k; exact ⟨u + v, by omega⟩
theorem Cg.add {x y a b : Int} (h : Cg x y) (k : Cg a b) : Cg (x + a) (y + b) := by obtain ⟨u, h⟩ := h; obtain ⟨v, k⟩ := k; exact ⟨u + v, by omega⟩
theorem Cg.sub {x y a b : Int} (h : Cg x y) (k : Cg a b) : Cg (x - a) (y - b) := by obtain ⟨u, h⟩ := h; obtain ⟨v, k⟩ := k; exact ⟨u - v, by omega⟩
theorem Cg.neg {x y : Int} (h : Cg x y) : Cg (-x) (-y) := by obtain ⟨u, h⟩ := h; exact ⟨-u, by omega⟩
theorem Cg.mul {x y a b : Int} (h : Cg x y) (k : Cg a b) : Cg (x * a) (y * b) := by
  obtain ⟨u, h⟩ := h; obtain ⟨v, k⟩ := k
  refine ⟨u * a + y * v, ?_⟩
  have e : x * a - y * b = (x - y) * a + y * (a - b) := by rw [Int.sub_mul, Int.mul_sub]; omega
  rw [e, h, k, Int.mul_add, Int.mul_assoc, Int.mul_left_comm y]
theorem Cg.wrap (x : Int) : Cg (IntKind.i64.wrap x) x := by
  rw [IntKind.wrap_i64]
  exact ⟨-((x + 9223372036854775808) / 18446744073709551616), by omega⟩
theorem Cg.eq {x y : Int} (h : Cg x y) (hx : -9223372036854775808 ≤ x ∧ x < 9223372036854775808) (hy : -9223372036854775808 ≤ y ∧ y < 9223372036854775808) : x = y := by
  obtain ⟨u, h⟩ := h; omega
theorem wrap_in (x : Int) : -9223372036854775808 ≤ IntKind.i64.wrap x ∧ IntKind.i64.wrap x < 9223372036854775808 := by rw [IntKind.wrap_i64]; omega
theorem wrap_id {x : Int} (h : -9223372036854775808 ≤ x ∧ x < 9223372036854775808) : IntKind.i64.wrap x = x := by rw [IntKind.wrap_i64]; omega
theorem smn_cg {n : Nat} {f g : Nat → Int} (h : ∀ i, i < n → Cg (f i) (g i)) : Cg (smn n f) (smn n g) := by
  induction n with
  | zero => exact Cg.refl _
  | succ n ih => simp only [smn]; exact (ih (fun i hi => h i (by omega))).add (h n (by omega))
theorem det_cg : ∀ {n : Nat} {a b : Mx}, (∀ i j, i < n → j < n → Cg (a i j) (b i j)) → Cg (det n a) (det n b)
  | 0, _, _, _ => Cg.refl _
  | n + 1, a, b, h => by
    show Cg (smn (n + 1) (fun j => sgj j * a 0 j * det n (mnr a j))) (smn (n + 1) (fun j => sgj j * b 0 j * det n (mnr b j)))
    exact smn_cg (fun j hj => ((Cg.refl _).mul (h 0 j (by omega) hj)).mul (det_cg (fun i k hi hk => h (i + 1) (skip j k) (by omega) (skip_lt hk hj))))
/-- the product of the first numbers of the diagonal -/
def dgp : Nat → Mx → Int
  | 0, _ => 1
  | n + 1, a => dgp n a * a n n
theorem dgp_front : ∀ (n : Nat) (a : Mx), dgp (n + 1) a = a 0 0 * dgp n (fun i j => a (i + 1) (j + 1))
  | 0, a => by simp [dgp]
  | n + 1, a => by rw [show dgp (n + 1 + 1) a = dgp (n + 1) a * a (n + 1) (n + 1) from rfl, dgp_front n a]; simp only [dgp, Int.mul_assoc]
theorem dgp_congr : ∀ {n : Nat} {a b : Mx}, (∀ i, i < n → a i i = b i i) → dgp n a = dgp n b
  | 0, _, _, _ => rfl
  | n + 1, a, b, h => by simp only [dgp]; rw [dgp_congr (fun i hi => h i (by omega)), h n (by omega)]
/-- nothing below the diagonal in the first columns -/
def Tri (k t : Nat) (a : Mx) : Prop := ∀ x y, y < t → y < x → x < k → a x y = 0
theorem det_tri : ∀ {n : Nat} {a : Mx}, Tri n n a → det n a = dgp n a
  | 0, _, _ => rfl
  | n + 1, a, h => by
    show smn (n + 1) (fun j => sgj j * a 0 j * det n (mnr a j)) = dgp (n + 1) a
    rw [sm_one (k := 0) (by omega) (fun j hj hne => ?_)]
    · rw [dgp_front, show sgj 0 = 1 from rfl, Int.one_mul]
      congr 1
      exact det_tri (n := n) (a := mnr a 0) (fun x y hy hxy hx => h (x + 1) (skip 0 y) (by unfold skip; simp; omega) (by unfold skip; simp; omega) (by omega))
    · have hn : 0 < n := by omega
      have hz : det n (mnr a j) = 0 := by
        have h1 := (det_is n).zero (mnr a j) hn
        rw [← h1]
        refine det_congr (fun r c hr hc => ?_)
        by_cases e : c = 0
        · subst e
          rw [upd_at]
          show a (r + 1) (skip j 0) = 0
          have : skip j 0 = 0 := by unfold skip; rw [if_pos (by omega)]
          rw [this]; exact h (r + 1) 0 (by omega) (by omega) (by omega)
        · rw [upd_ne e]
      show sgj j * a 0 j * det n (mnr a j) = 0
      rw [hz, Int.mul_zero]
/-- a row from which a multiple of another one is subtracted, and what wraps around does -/
def subR (k : Nat) (q : Int) (r o : List Int) : List Int := (List.range k).map (fun j => IntKind.i64.wrap (num r j - IntKind.i64.wrap (q * num o j)))
theorem subR_len (k : Nat) (q : Int) (r o : List Int) : (subR k q r o).length = k := by simp [subR]
theorem subR_num {k j : Nat} (q : Int) (r o : List Int) (h : j < k) : num (subR k q r o) j = IntKind.i64.wrap (num r j - IntKind.i64.wrap (q * num o j)) := num_map h _
/-- one step: row c becomes row i, and row i what is left of row c -/
def elim (k c i : Nat) (q : Int) (L : List (List Int)) : List (List Int) := (L.set c (rowL L i)).set i (subR k q (rowL L c) (rowL L i))
theorem elim_ent {k c i : Nat} {q : Int} {L : List (List Int)} (hs : Sq k L) (hc : c < i) (hi : i < k) (x y : Nat) (hy : y < k) :
    ent (elim k c i q L) x y = if x = i then IntKind.i64.wrap (ent L c y - IntKind.i64.wrap (q * ent L i y)) else if x = c then ent L i y else ent L x y := by
  unfold elim
  rw [ent_set (by rw [List.length_set, hs.1]; exact hi), ent_set (by rw [hs.1]; omega)]
  by_cases e : x = i
  · rw [if_pos e, if_pos e, subR_num _ _ _ hy]; rfl
  · rw [if_neg e, if_neg e]; rfl
theorem elim_sq {k c i : Nat} {q : Int} {L : List (List Int)} (hs : Sq k L) (hc : c < i) (hi : i < k) : Sq k (elim k c i q L) := by
  refine ⟨by unfold elim; rw [List.length_set, List.length_set, hs.1], fun r hr => ?_⟩
  rcases List.mem_or_eq_of_mem_set hr with h | h
  · rcases List.mem_or_eq_of_mem_set h with h | h
    · exact hs.2 r h
    · rw [h]; exact hs.row hi
  · rw [h]; exact subR_len _ _ _ _
theorem elim_det {k c i : Nat} {q : Int} {L : List (List Int)} (hs : Sq k L) (hc : c < i) (hi : i < k) : Cg (det k (ent (elim k c i q L))) (-det k (ent L)) := by
  let a1 : Mx := fun x y => if x = c then ent L c y + (-q) * ent L i y else ent L x y
  let a2 : Mx := fun x y => a1 (if x = i then c else if x = c then i else x) y
  have h1 : det k a1 = det k (ent L) := det_row_more (ent L) a1 (by omega) hi (by omega) (-q) (fun _ _ _ _ => rfl)
  have h2 : det k a2 = -det k a1 := det_rows_swap a1 a2 (p := c) (q := i) (by omega) hi (by omega) (fun _ _ _ _ => rfl)
  rw [← h1, ← h2]
  refine det_cg (fun x y hx hy => ?_)
  rw [elim_ent hs hc hi x y hy]
  show Cg _ (a1 (if x = i then c else if x = c then i else x) y)
  by_cases e : x = i
  · rw [if_pos e, if_pos e]
    show Cg _ (if c = c then ent L c y + (-q) * ent L i y else ent L c y)
    rw [if_pos rfl, Int.neg_mul, ← Int.sub_eq_add_neg]
    exact (Cg.wrap _).trans ((Cg.refl _).sub (Cg.wrap _))
  · rw [if_neg e, if_neg e]
    by_cases e2 : x = c
    · rw [if_pos e2, if_pos e2]
      show Cg _ (if i = c then ent L c y + (-q) * ent L i y else ent L i y)
      rw [if_neg (by omega)]; exact Cg.refl _
    · rw [if_neg e2, if_neg e2]
      show Cg _ (if x = c then ent L c y + (-q) * ent L i y else ent L x y)
      rw [if_neg e2]; exact Cg.refl _
/-- numbers of the type int -/
def In64 (k : Nat) (a : Mx) : Prop := ∀ x y, x < k → y < k → -9223372036854775808 ≤ a x y ∧ a x y < 9223372036854775808
/-- Euclid's step: what is left is less -/
theorem euclid {x y : Int} (hx : -9223372036854775808 ≤ x ∧ x < 9223372036854775808) (hy : -9223372036854775808 ≤ y ∧ y < 9223372036854775808) (h0 : y ≠ 0) :
    (IntKind.i64.wrap (x - IntKind.i64.wrap (IntKind.i64.wrap (x.tdiv y) * y))).natAbs < y.natAbs := by
  have h1 : Cg (IntKind.i64.wrap (x - IntKind.i64.wrap (IntKind.i64.wrap (x.tdiv y) * y))) (x - x.tdiv y * y) := (Cg.wrap _).trans ((Cg.refl _).sub ((Cg.wrap _).trans ((Cg.wrap _).mul (Cg.refl _))))
  have h2 : x - x.tdiv y * y = x.tmod y := by have := Int.tmod_add_tdiv_mul x y; omega
  rw [h2] at h1
  have h3 : (x.tmod y).natAbs < y.natAbs := by rw [Int.natAbs_tmod]; exact Nat.mod_lt _ (by omega)
  have h4 := h1.eq (wrap_in _) (by omega)
  rw [h4]; exact h3
/-- rows in the midst of clearing column c, as far as row i -/
structure Elm (k c i : Nat) (L0 L : List (List Int)) (s : Int) : Prop where
  sq : Sq k L
  rng : In64 k (ent L)
  sgn : s = 1 ∨ s = -1
  dt : Cg (det k (ent L0)) (s * det k (ent L))
  top : ∀ x y, x < c → y < k → ent L x y = ent L0 x y
  tri : Tri k c (ent L)
  cl : ∀ x, c < x → x < i → ent L x c = 0
theorem Elm.start {k c : Nat} {L : List (List Int)} (hs : Sq k L) (hr : In64 k (ent L)) (ht : Tri k c (ent L)) : Elm k c (c + 1) L L 1 :=
  ⟨hs, hr, .inl rfl, Cg.of (by omega), fun _ _ _ _ => rfl, ht, fun x h1 h2 => by omega⟩
theorem Elm.next {k c i : Nat} {L0 L : List (List Int)} {s : Int} (h : Elm k c i L0 L s) (hz : ent L i c = 0) : Elm k c (i + 1) L0 L s :=
  ⟨h.sq, h.rng, h.sgn, h.dt, h.top, h.tri, fun x h1 h2 => by
    by_cases e : x = i
    · subst e; exact hz
    · exact h.cl x h1 (by omega)⟩
theorem Elm.step {k c i : Nat} {L0 L : List (List Int)} {s : Int} (h : Elm k c i L0 L s) (hc : c < i) (hi : i < k) (q : Int) : Elm k c i L0 (elim k c i q L) (-s) := by
  have hw : IntKind.i64.wrap (0 - IntKind.i64.wrap (q * 0)) = 0 := by rw [Int.mul_zero, IntKind.wrap_i64, IntKind.wrap_i64]; rfl
  refine ⟨elim_sq h.sq hc hi, fun x y hx hy => ?_, by have := h.sgn; omega, ?_, fun x y hx hy => ?_, fun x y hy hxy hx => ?_, fun x h1 h2 => ?_⟩
  · rw [elim_ent h.sq hc hi x y hy]
    split
    · exact wrap_in _
    · split
      · exact h.rng i y hi hy
      · exact h.rng x y hx hy
  · have h1 := (Cg.refl s).mul (elim_det h.sq hc hi (q := q)).neg
    rw [Int.neg_neg] at h1
    refine h.dt.trans (h1.symm.trans (Cg.of ?_))
    rw [Int.neg_mul, Int.mul_neg]
  · rw [elim_ent h.sq hc hi x y hy, if_neg (by omega), if_neg (by omega)]; exact h.top x y hx hy
  · rw [elim_ent h.sq hc hi x y (by omega)]
    split
    · rw [h.tri c y hy (by omega) (by omega), h.tri i y hy (by omega) hi]; exact hw
    · split
      · exact h.tri i y hy (by omega) hi
      · exact h.tri x y hy hxy hx
  · rw [elim_ent h.sq hc hi x c (by omega), if_neg (by omega), if_neg (by omega)]; exact h.cl x h1 h2
theorem Elm.less {k c i : Nat} {L0 L : List (List Int)} {s : Int} (h : Elm k c i L0 L s) (hc : c < i) (hi : i < k) (h0 : ent L i c ≠ 0) :
    (ent (elim k c i (IntKind.i64.wrap ((ent L c c).tdiv (ent L i c))) L) i c).natAbs < (ent L i c).natAbs := by
  rw [elim_ent h.sq hc hi i c (by omega), if_pos rfl]
  exact euclid (h.rng c c (by omega) (by omega)) (h.rng i c hi (by omega)) h0
/-- rows of which the first columns are cleared, and the product so far -/
structure Drm (k t : Nat) (D : Int) (L : List (List Int)) (p : Int) : Prop where
  sq : Sq k L
  rng : In64 k (ent L)
  tri : Tri k t (ent L)
  dt : ∃ s : Int, Cg D (s * det k (ent L)) ∧ Cg p (s * dgp t (ent L))
  pr : -9223372036854775808 ≤ p ∧ p < 9223372036854775808
theorem Drm.start {k : Nat} {L : List (List Int)} (hs : Sq k L) (hr : In64 k (ent L)) : Drm k 0 (det k (ent L)) L 1 :=
  ⟨hs, hr, fun x y h => by omega, ⟨1, Cg.of (by omega), Cg.of (by simp [dgp])⟩, by omega⟩
theorem Drm.next {k t : Nat} {D p s : Int} {L L' : List (List Int)} (h : Drm k t D L p) (ht : t < k) (he : Elm k t k L L' s) :
    Drm k (t + 1) D L' (IntKind.i64.wrap (IntKind.i64.wrap (p * s) * ent L' t t)) := by
  obtain ⟨s0, h1, h2⟩ := h.dt
  refine ⟨he.sq, he.rng, fun x y hy hxy hx => ?_, ⟨s0 * s, ?_, ?_⟩, wrap_in _⟩
  · by_cases e : y = t
    · subst e; exact he.cl x hxy hx
    · exact he.tri x y (by omega) hxy hx
  · refine h1.trans ?_
    rw [Int.mul_assoc]
    exact (Cg.refl s0).mul he.dt
  · have e1 : dgp t (ent L') = dgp t (ent L) := dgp_congr (fun i hi => he.top i i hi (by omega))
    refine ((Cg.wrap _).trans ((Cg.wrap _).mul (Cg.refl _))).trans ?_
    simp only [dgp]
    rw [e1]
    have h3 := (h2.mul (Cg.refl s)).mul (Cg.refl (ent L' t t))
    refine h3.trans (Cg.of ?_)
    simp only [Int.mul_assoc, Int.mul_comm]
theorem Drm.done {k : Nat} {D p : Int} {L : List (List Int)} (h : Drm k k D L p) (hD : -9223372036854775808 ≤ D ∧ D < 9223372036854775808) : p = D := by
  obtain ⟨s, h1, h2⟩ := h.dt
  rw [← det_tri h.tri] at h2
  exact (h2.trans h1.symm).eq h.pr hD
end Go.Proofs.Ythpfhbogpnhgmaa
