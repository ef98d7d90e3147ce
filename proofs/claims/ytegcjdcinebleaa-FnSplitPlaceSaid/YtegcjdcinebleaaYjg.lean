/-
  Places in a parcel and in its two parts. No function of the program is named.
-/
import Derived.Test.YtegcjdcinebleaaYjf
namespace Poly

theorem any_iff (f : Nat → Bool) : ∀ n : Nat, anyF f n = true ↔ ∃ k, k < n ∧ f k = true
  | 0 => ⟨fun h => (by cases h), fun ⟨k, h, _⟩ => (by omega)⟩
  | n + 1 => by
    show (anyF f n || f n) = true ↔ _
    rw [Bool.or_eq_true, any_iff f n]
    constructor
    · rintro (⟨k, h, e⟩ | e)
      · exact ⟨k, by omega, e⟩
      · exact ⟨n, by omega, e⟩
    · rintro ⟨k, h, e⟩
      by_cases g : k = n
      · right; rw [← g]; exact e
      · left; exact ⟨k, by omega, e⟩
theorem on_iff (L : List P2) (p : P2) : onL L p = true ↔ onW (cy L) L.length p := any_iff _ _
theorem east_chi (a b p : P2) : east a b p = decide (chi (sb a p) (sb b p) % 2 = 1) := by
  have s1 : (sb a p).2 = a.2 - p.2 := rfl
  have s2 : (sb b p).2 = b.2 - p.2 := rfl
  unfold east chi
  rw [s1, s2, cv_sub]
  by_cases h1 : a.2 ≤ p.2 ∧ p.2 < b.2
  · rw [if_pos h1, if_pos (show a.2 - p.2 ≤ 0 ∧ 0 < b.2 - p.2 by omega)]
    apply decide_eq_decide.2
    split <;> omega
  · rw [if_neg h1, if_neg (show ¬ (a.2 - p.2 ≤ 0 ∧ 0 < b.2 - p.2) by omega)]
    by_cases h2 : b.2 ≤ p.2 ∧ p.2 < a.2
    · rw [if_pos h2, if_pos (show b.2 - p.2 ≤ 0 ∧ 0 < a.2 - p.2 by omega)]
      apply decide_eq_decide.2
      split <;> omega
    · rw [if_neg h2, if_neg (show ¬ (b.2 - p.2 ≤ 0 ∧ 0 < a.2 - p.2) by omega)]
      rfl
theorem odd_wn (L : List P2) (p : P2) : ∀ k : Nat, oddF (fun i => east (cy L i) (cy L (i + 1)) p) k = decide (wn (cy L) k p % 2 = 1)
  | 0 => rfl
  | k + 1 => by
    show xor (oddF _ k) (east (cy L k) (cy L (k + 1)) p) = decide ((wn (cy L) k p + chi (sb (cy L k) p) (sb (cy L (k + 1)) p)) % 2 = 1)
    rw [odd_wn L p k, east_chi]
    generalize wn (cy L) k p = a
    generalize chi (sb (cy L k) p) (sb (cy L (k + 1)) p) = b
    rcases Int.emod_two_eq a with ha | ha <;> rcases Int.emod_two_eq b with hb | hb <;> rw [ha, hb, Int.add_emod, ha, hb] <;> rfl
/-- where a point lies, in three cases -/
theorem place_cases {L : List P2} (h : LW (cy L) L.length) (p : P2) :
    (onW (cy L) L.length p ∧ placeL L p = 0) ∨ (¬ onW (cy L) L.length p ∧ wn (cy L) L.length p = 1 ∧ placeL L p = 1) ∨ (¬ onW (cy L) L.length p ∧ wn (cy L) L.length p = 0 ∧ placeL L p = -1) := by
  unfold placeL
  by_cases ho : onW (cy L) L.length p
  · left
    refine ⟨ho, ?_⟩
    rw [if_pos ((on_iff L p).2 ho)]
  · right
    rw [if_neg (fun g => ho ((on_iff L p).1 g))]
    have e : oddL L p = decide (wn (cy L) L.length p % 2 = 1) := odd_wn L p _
    rw [e]
    rcases wn_off h ho with w | w
    · right; refine ⟨ho, w, ?_⟩; rw [w]; rfl
    · left; refine ⟨ho, w, ?_⟩; rw [w]; rfl
variable {P Q : Nat → P2} {n m s : Nat}
theorem per_mod (h : ∀ i, P (i + n) = P i) (i : Nat) : P (i % n) = P i := by
  have aux : ∀ q r, P (r + q * n) = P r := by
    intro q
    induction q with
    | zero => intro r; simp
    | succ q ih => intro r; rw [Nat.succ_mul, ← Nat.add_assoc, h, ih]
  have := aux (i / n) (i % n)
  rw [Nat.mul_comm, Nat.mod_add_div] at this
  exact this.symm
theorem per_next (h : ∀ i, P (i + n) = P i) (i : Nat) : P (i % n + 1) = P (i + 1) := by
  rw [← per_mod h (i + 1), ← per_mod h (i % n + 1), Nat.mod_add_mod]
theorem onW_any (hP : Way P n) {k : Nat} {p : P2} (h : onP (P k) (P (k + 1)) p = true) : onW P n p := by
  have h3 := hP.n3
  exact ⟨k % n, Nat.mod_lt _ (by omega), by rw [per_mod hP.per, per_next hP.per]; exact h⟩
theorem sub_on {A B x : P2} (h : onP A B x = true) (ha : x ≠ A) (hb : x ≠ B) : Sub A B x := by
  obtain ⟨h0, h1, h2⟩ := onP_use h
  have hc := h0
  unfold crs Pt.cr at hc
  by_cases hy : A.2 = B.2
  · have e2 : x.2 = A.2 := by omega
    have na : x.1 ≠ A.1 := fun g => ha (Prod.ext g e2)
    have nb : x.1 ≠ B.1 := fun g => hb (Prod.ext g (by omega))
    rcases Int.lt_or_le A.1 B.1 with g | g
    · exact ⟨B.1 - A.1, B.1 - x.1, by omega, by omega, by grind, by rw [show B.2 - x.2 = 0 by omega, show B.2 - A.2 = 0 by omega]; simp⟩
    · exact ⟨A.1 - B.1, x.1 - B.1, by omega, by omega, by grind, by rw [show B.2 - x.2 = 0 by omega, show B.2 - A.2 = 0 by omega]; simp⟩
  · refine sub_of h0 ?_
    have na : x.2 ≠ A.2 := fun g => by
      rw [g, Int.sub_self, Int.mul_zero] at hc
      have : (B.2 - A.2) * (x.1 - A.1) = 0 := by omega
      rcases Int.mul_eq_zero.1 this with q | q
      · omega
      · exact ha (Prod.ext (by omega) g)
    have nb : x.2 ≠ B.2 := fun g => by
      rw [g] at hc
      have : (B.2 - A.2) * (B.1 - x.1) = 0 := by grind
      rcases Int.mul_eq_zero.1 this with q | q
      · omega
      · exact hb (Prod.ext (by omega) g)
    omega
theorem wn_in (hP : Way P n) (k : Nat) {x : P2} (hx : Sub (P k) (P (k + 1)) x) : wn P n x + psi (ed P k) = lw P n 0 := by
  have h3 := hP.n3
  have e1 : P (k + n - 1 + 1) = P k := by rw [show k + n - 1 + 1 = k + n from by omega]; exact hP.per k
  have e2 : P (k + n - 1 + 2) = P (k + 1) := by rw [show k + n - 1 + 2 = k + 1 + n from by omega]; exact hP.per (k + 1)
  have := wn_inner hP (k + n - 1) (x := x) (by rw [e1, e2]; exact hx)
  have ee : ed P (k + n - 1 + 1) = ed P k := by
    unfold ed
    rw [show k + n - 1 + 1 + 1 = k + n - 1 + 2 from rfl, e1, e2]
  rw [ee] at this
  exact this
/-- a part of a way, closed by a line of its own -/
structure Part (Q : Nat → P2) (m : Nat) (P : Nat → P2) (n s : Nat) : Prop where
  out : LW P n
  inn : LW Q (m + 1)
  same : ∀ t, t ≤ m → Q t = P (s + t)
theorem Part.corner (h : Part Q m P n s) {t : Nat} (ht : t + 2 ≤ m) : wn P n (P (s + (t + 1))) = wn Q (m + 1) (Q (t + 1)) := by
  have a := (lw_all h.inn.way t).trans h.inn.one
  have b := (lw_all h.out.way (s + t)).trans h.out.one
  unfold lw ed at a b
  rw [h.same t (by omega), h.same (t + 1) (by omega), h.same (t + 1 + 1) (by omega)] at a
  rw [h.same (t + 1) (by omega)]
  have e1 : s + (t + 1) = s + t + 1 := by omega
  have e2 : s + (t + 1 + 1) = s + t + 1 + 1 := by omega
  rw [e1, e2] at a
  rw [e1]
  omega
/-- a point on a side of the part that is a side of the whole, but at its ends, is wound around as often by both -/
theorem Part.side (h : Part Q m P n s) {t : Nat} (ht : t < m) {p : P2} (ho : onP (Q t) (Q (t + 1)) p = true) (h0 : p ≠ Q 0) (hm : p ≠ Q m) : onW P n p ∧ wn P n p = wn Q (m + 1) p := by
  have e0 := h.same t (by omega)
  have e1 := h.same (t + 1) (by omega)
  refine ⟨onW_any h.out.way (k := s + t) (by rw [e0, e1] at ho; exact ho), ?_⟩
  by_cases g0 : p = Q t
  · rcases t with _ | t
    · exact absurd g0 h0
    · rw [g0, ← Part.corner h (t := t) (by omega), e0]
  · by_cases g1 : p = Q (t + 1)
    · by_cases gm : t + 1 = m
      · rw [gm] at g1; exact absurd g1 hm
      · rw [g1, ← Part.corner h (t := t) (by omega), e1]
    · have hs := sub_on ho g0 g1
      have a := (wn_in h.inn.way t hs).trans h.inn.one
      have b := (wn_in h.out.way (s + t) (x := p) (by rw [e0, e1] at hs; exact hs)).trans h.out.one
      have : ed Q t = ed P (s + t) := by
        unfold ed
        rw [e0, e1]
        rfl
      rw [this] at a
      omega
theorem psi_ng {u : P2} (h : u ≠ (0, 0)) : psi u + psi (ng u) = 1 := by
  have : ¬ (u.1 = 0 ∧ u.2 = 0) := fun g => h (Prod.ext g.1 g.2)
  unfold psi ng
  simp only
  repeat' split
  all_goals omega
theorem LW.len {L : List P2} {m : Nat} (h : LW (cy L) L.length) (e : L.length = m) : LW (cy L) m := e ▸ h
theorem onW_end (hP : Way P n) (k : Nat) : onW P n (P k) := onW_any hP (k := k) (onP_end _ _)
/-- the two parts of a way, and the way -/
structure Two (A : Nat → P2) (a : Nat) (B : Nat → P2) (b : Nat) (P : Nat → P2) (n i j : Nat) : Prop where
  pa : Part A a P n i
  pb : Part B b P n j
  a0 : A (a + 1) = A 0
  b0 : B (b + 1) = B 0
  ab : A a = B 0
  ba : B b = A 0
  add : ∀ p, wn P n p = wn A (a + 1) p + wn B (b + 1) p
  all : ∀ p, onW P n p → onW A (a + 1) p ∨ onW B (b + 1) p
theorem two_flip {A B P : Nat → P2} {a b n i j : Nat} (h : Two A a B b P n i j) : Two B b A a P n j i :=
  ⟨h.pb, h.pa, h.b0, h.a0, h.ba, h.ab, fun p => by rw [h.add]; omega, fun p hp => (h.all p hp).symm⟩
theorem Two.alone {A B P : Nat → P2} {a b n i j : Nat} (h : Two A a B b P n i j) {p : P2} (ha : onW A (a + 1) p) (hb : ¬ onW B (b + 1) p) : onW P n p ∧ wn P n p = wn A (a + 1) p := by
  obtain ⟨t, ht, ho⟩ := ha
  by_cases e : t = a
  · exfalso
    rw [e, h.a0, h.ab] at ho
    exact hb (onW_any h.pb.inn.way (k := b) (by rw [h.b0, h.ba, onP_swap]; exact ho))
  · refine h.pa.side (t := t) (by omega) ho (fun g => hb ?_) (fun g => hb ?_)
    · rw [g, ← h.ba]; exact onW_end h.pb.inn.way b
    · rw [g, h.ab]; exact onW_end h.pb.inn.way 0
theorem Two.both {A B P : Nat → P2} {a b n i j : Nat} (h : Two A a B b P n i j) {p : P2} (ha : onW A (a + 1) p) (hP : ¬ onW P n p) : wn P n p = 1 := by
  obtain ⟨t, ht, ho⟩ := ha
  by_cases e : t = a
  · subst e
    have n0 : p ≠ A t := fun g => hP (by rw [g, h.pa.same t (Nat.le_refl _)]; exact onW_end h.pa.out.way _)
    have n1 : p ≠ A (t + 1) := fun g => hP (by rw [g, h.a0, h.pa.same 0 (Nat.zero_le _)]; exact onW_end h.pa.out.way _)
    have hs := sub_on ho n0 n1
    have w1 := (wn_in h.pa.inn.way t hs).trans h.pa.inn.one
    have w2 := (wn_in h.pb.inn.way b (x := p) (by rw [h.b0, h.ba, ← h.ab, ← h.a0]; exact hs.flip)).trans h.pb.inn.one
    have e : ed B b = ng (ed A t) := by
      unfold ed
      rw [h.b0, h.ba, h.a0, h.ab]
      unfold sb ng
      simp only
      congr 1 <;> omega
    have hne : ed A t ≠ (0, 0) := by
      intro g
      have g1 : (A (t + 1)).1 - (A t).1 = 0 := congrArg Prod.fst g
      have g2 : (A (t + 1)).2 - (A t).2 = 0 := congrArg Prod.snd g
      obtain ⟨-, x, y⟩ := onP_use ho
      exact n0 (Prod.ext (by omega) (by omega))
    have := psi_ng hne
    rw [e] at w2
    have := h.add p
    omega
  · exfalso
    have e0 := h.pa.same t (by omega)
    have e1 := h.pa.same (t + 1) (by omega)
    exact hP (onW_any h.pa.out.way (k := i + t) (by rw [e0, e1] at ho; exact ho))
theorem place_logic {oA oB oL : Prop} {wA wB wL x y z : Int} (hA : (oA ∧ x = 0) ∨ (¬ oA ∧ wA = 1 ∧ x = 1) ∨ (¬ oA ∧ wA = 0 ∧ x = -1)) (hB : (oB ∧ y = 0) ∨ (¬ oB ∧ wB = 1 ∧ y = 1) ∨ (¬ oB ∧ wB = 0 ∧ y = -1))
    (hL : (oL ∧ z = 0) ∨ (¬ oL ∧ wL = 1 ∧ z = 1) ∨ (¬ oL ∧ wL = 0 ∧ z = -1)) (hadd : wL = wA + wB) (h1 : oA → ¬ oB → oL ∧ wL = wA) (h2 : oB → ¬ oA → oL ∧ wL = wB) (h3 : oL → oA ∨ oB) (h4 : oA → ¬ oL → wL = 1) (h5 : oB → ¬ oL → wL = 1) :
    (x < 1 ∨ (z = 1 ∧ y = -1)) ∧ (y < 1 ∨ (z = 1 ∧ x = -1)) ∧ (-1 < z ∨ (x = -1 ∧ y = -1)) ∧ (z < 1 ∨ 0 ≤ x ∨ 0 ≤ y) := by
  rcases hA with ⟨a, ha⟩ | ⟨a, ha, ha'⟩ | ⟨a, ha, ha'⟩ <;> rcases hB with ⟨b, hb⟩ | ⟨b, hb, hb'⟩ | ⟨b, hb, hb'⟩ <;> rcases hL with ⟨c, hc⟩ | ⟨c, hc, hc'⟩ | ⟨c, hc, hc'⟩ <;> simp only [a, b, c, true_and, false_and, not_true, not_false_iff, true_implies, false_implies, forall_const, or_true, true_or, or_false, false_or] at h1 h2 h3 h4 h5 <;> omega
theorem two_of {L : List P2} {i j : Nat} (hij : i < j) (hj : j < L.length) (hv : parV L = true) (hA : parV (splA L i j) = true) (hB : parV (splB L i j) = true) : Two (cy (splA L i j)) (j - i) (cy (splB L i j)) (L.length - j + i) (cy L) L.length i j := by
  have lL := lw_of (parV_poly hv) (parV_area hv)
  have eI : cy L (j + (L.length - j + i)) = cy L i := by rw [show j + (L.length - j + i) = i + L.length by omega, cy_add]
  refine ⟨⟨lL, (lw_of (parV_poly hA) (parV_area hA)).len (splA_len hij hj), fun t ht => cy_splA hij hj ht⟩, ⟨lL, (lw_of (parV_poly hB) (parV_area hB)).len (splB_len hij hj), fun t ht => cy_splB hij hj ht⟩, ?_, ?_, ?_, ?_, ?_, ?_⟩
  · rw [cy_splA_end hij hj, cy_splA hij hj (Nat.zero_le _)]; rfl
  · rw [cy_splB_end hij hj, cy_splB hij hj (Nat.zero_le _)]; rfl
  · rw [cy_splA hij hj (Nat.le_refl _), cy_splB hij hj (Nat.zero_le _), show i + (j - i) = j + 0 by omega]
  · rw [cy_splB hij hj (Nat.le_refl _), cy_splA hij hj (Nat.zero_le _), eI]; rfl
  · intro p
    have := ring_split (L := L) (fun a b => chi (sb a p) (sb b p)) hij hj
    unfold ringS at this
    rw [splA_len hij hj, splB_len hij hj] at this
    have an := chi_anti (sb (cy L i) p) (sb (cy L j) p)
    simp only at this
    unfold wn
    omega
  · rintro p ⟨k, hk, ho⟩
    by_cases h1 : i ≤ k ∧ k < j
    · left
      refine ⟨k - i, by omega, ?_⟩
      rw [cy_splA hij hj (by omega), cy_splA hij hj (by omega), show i + (k - i) = k by omega, show i + (k - i + 1) = k + 1 by omega]
      exact ho
    · right
      by_cases h2 : j ≤ k
      · refine ⟨k - j, by omega, ?_⟩
        rw [cy_splB hij hj (by omega), cy_splB hij hj (by omega), show j + (k - j) = k by omega, show j + (k - j + 1) = k + 1 by omega]
        exact ho
      · refine ⟨k + L.length - j, by omega, ?_⟩
        rw [cy_splB hij hj (by omega), cy_splB hij hj (by omega), show j + (k + L.length - j) = k + L.length by omega, show j + (k + L.length - j + 1) = k + 1 + L.length by omega, cy_add, cy_add]
        exact ho
/-- PLACES in a parcel and in its two parts -/
theorem split_place {L : List P2} {i j : Nat} (hij : i < j) (hj : j < L.length) (hv : parV L = true) (hA : parV (splA L i j) = true) (hB : parV (splB L i j) = true) {x y z : Int} (p : P2) (hx : placeL (splA L i j) p = x) (hy : placeL (splB L i j) p = y) (hz : placeL L p = z) :
    (x < 1 ∨ (z = 1 ∧ y = -1)) ∧ (y < 1 ∨ (z = 1 ∧ x = -1)) ∧ (-1 < z ∨ (x = -1 ∧ y = -1)) ∧ (z < 1 ∨ 0 ≤ x ∨ 0 ≤ y) := by
  have h := two_of hij hj hv hA hB
  have h' := two_flip h
  have k1 := place_cases (lw_of (parV_poly hA) (parV_area hA)) p
  have k2 := place_cases (lw_of (parV_poly hB) (parV_area hB)) p
  have k3 := place_cases (lw_of (parV_poly hv) (parV_area hv)) p
  rw [splA_len hij hj, hx] at k1
  rw [splB_len hij hj, hy] at k2
  rw [hz] at k3
  exact place_logic k1 k2 k3 (h.add p) (fun a b => h.alone a b) (fun b a => h'.alone b a) (h.all p) (fun a c => h.both a c) (fun b c => h'.both b c)
end Poly
