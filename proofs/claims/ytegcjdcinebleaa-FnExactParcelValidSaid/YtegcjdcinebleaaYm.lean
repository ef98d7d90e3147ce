/-
  Polygons as lists of points, with no Go in sight: which are valid, which sides clash, areas, points on sides, what lies inside. No function of the program is named.
-/
import Derived.Test.YtegcjdcinebleaaPMath
namespace Poly

abbrev P2 := Int × Int
/-- the corner with a number, counted round and round -/
def cy (L : List P2) (i : Nat) : P2 := L.getD (i % L.length) (0, 0)
def pvP (p : P2) : Bool := Pt.pv p.1 p.2
def okP (L : List P2) : Bool := decide (3 ≤ L.length ∧ L.length ≤ 12) && L.all pvP
def onP (a b c : P2) : Bool := Pt.onB a.1 a.2 b.1 b.2 c.1 c.2
def crs (a b c : P2) : Int := Pt.cr (b.1 - a.1) (b.2 - a.2) (c.1 - a.1) (c.2 - a.2)
def sgn (x : Int) : Int := if x < 0 then -1 else if 0 < x then 1 else 0
def sd (a b c : P2) : Int := sgn (crs a b c)
/-- both ends of the second side lie on two sides of the first one -/
def parts (a b c d : P2) : Bool := decide (sd a b c * sd a b d < 0)
def touch (a b c d : P2) : Bool := onP a b c || onP a b d || onP c d a || onP c d b
def meet (a b c d : P2) : Bool := touch a b c d || (parts a b c d && parts c d a b)
/-- the sides i < k clash -/
def clash (L : List P2) (i k : Nat) : Bool :=
  if k = i + 1 then onP (cy L i) (cy L (i + 1)) (cy L (k + 1)) || onP (cy L k) (cy L (k + 1)) (cy L i)
  else if (k + 1) % L.length = i then onP (cy L k) (cy L (k + 1)) (cy L (i + 1)) || onP (cy L i) (cy L (i + 1)) (cy L k)
  else meet (cy L i) (cy L (i + 1)) (cy L k) (cy L (k + 1))
def simple (L : List P2) : Bool := (List.range L.length).all fun i => (List.range L.length).all fun k => !(decide (i < k)) || !(clash L i k)
def polyV (L : List P2) : Bool := okP L && simple L
def sumF (f : Nat → Int) : Nat → Int
  | 0 => 0
  | k + 1 => sumF f k + f k
def crP (a b : P2) : Int := Pt.cr a.1 a.2 b.1 b.2
def areaL (L : List P2) : Int := sumF (fun i => crP (cy L i) (cy L (i + 1))) L.length
def gapP (a b : P2) : Int := (Int.gcd (b.1 - a.1) (b.2 - a.2) : Int)
def edgeL (L : List P2) : Int := sumF (fun i => gapP (cy L i) (cy L (i + 1))) L.length
def insideL (L : List P2) : Int := ((areaL L).natAbs - edgeL L + 2).tdiv 2
/-- the way from p to the east crosses the side from a to b -/
def east (a b p : P2) : Bool := if a.2 ≤ p.2 ∧ p.2 < b.2 then decide (0 < crs a b p) else if b.2 ≤ p.2 ∧ p.2 < a.2 then decide (crs a b p < 0) else false
def oddF (f : Nat → Bool) : Nat → Bool
  | 0 => false
  | k + 1 => xor (oddF f k) (f k)
def anyF (f : Nat → Bool) : Nat → Bool
  | 0 => false
  | k + 1 => anyF f k || f k
def onL (L : List P2) (p : P2) : Bool := anyF (fun i => onP (cy L i) (cy L (i + 1)) p) L.length
def oddL (L : List P2) (p : P2) : Bool := oddF (fun i => east (cy L i) (cy L (i + 1)) p) L.length
def placeL (L : List P2) (p : P2) : Int := if onL L p then 0 else if oddL L p then 1 else -1
def backL : List P2 → List P2
  | [] => []
  | a :: l => a :: l.reverse
def turnBad (L : List P2) (i : Nat) : Bool := decide (sd (cy L i) (cy L (i + 1)) (cy L (i + 2)) * areaL L < 0)
def convexL (L : List P2) : Bool := polyV L && !(anyF (turnBad L) L.length)

variable {L : List P2}
theorem getD_at {i : Nat} (h : i < L.length) : L.getD i (0, 0) = L[i] := by rw [List.getD_eq_getElem?_getD, List.getElem?_eq_getElem h]; rfl
theorem okP_len (h : okP L = true) : 3 ≤ L.length ∧ L.length ≤ 12 := by unfold okP at h; simp at h; exact h.1
theorem okP_at (h : okP L = true) (i : Nat) : pvP (cy L i) = true := by
  have hl := okP_len h
  unfold okP at h
  simp only [Bool.and_eq_true, List.all_eq_true] at h
  unfold cy
  have hi : i % L.length < L.length := Nat.mod_lt _ (by omega)
  rw [getD_at hi]
  exact h.2 _ (List.getElem_mem hi)
theorem cy_lt {i : Nat} (h : i < L.length) : L[i]? = some (cy L i) := by
  unfold cy; rw [Nat.mod_eq_of_lt h, getD_at h, List.getElem?_eq_getElem h]
theorem cy_add (i : Nat) : cy L (i + L.length) = cy L i := by unfold cy; rw [Nat.add_mod_right]
theorem cy_mod (i : Nat) : cy L (i % L.length) = cy L i := by unfold cy; rw [Nat.mod_mod]
theorem cy_wrap {i : Nat} (h : i < L.length) : cy L (i + 1) = cy L (if i + 1 = L.length then 0 else i + 1) := by
  split
  · next e => rw [e]; have := cy_add (L := L) 0; rw [Nat.zero_add] at this; exact this
  · rfl
theorem okP_of (h1 : 3 ≤ L.length) (h2 : L.length ≤ 12) (h : ∀ i, i < L.length → pvP (cy L i) = true) : okP L = true := by
  unfold okP
  simp only [Bool.and_eq_true, List.all_eq_true, decide_eq_true_eq]
  refine ⟨⟨h1, h2⟩, fun p hp => ?_⟩
  obtain ⟨i, hi, rfl⟩ := List.mem_iff_getElem.1 hp
  have := h i hi
  unfold cy at this
  rwa [Nat.mod_eq_of_lt hi, getD_at hi] at this
theorem okP_no {i : Nat} (hi : i < L.length) (h : pvP (cy L i) = false) : okP L = false := by
  cases e : okP L with
  | false => rfl
  | true => rw [okP_at e i] at h; cases h
theorem okP_short (h : ¬ (3 ≤ L.length ∧ L.length ≤ 12)) : okP L = false := by
  unfold okP; rw [decide_eq_false h]; rfl

theorem simple_no {i k : Nat} (hi : i < k) (hk : k < L.length) (h : clash L i k = true) : simple L = false := by
  cases e : simple L with
  | false => rfl
  | true =>
    unfold simple at e
    simp only [List.all_eq_true, List.mem_range] at e
    have := e i (by omega) k hk
    simp [hi, h] at this
theorem simple_of (h : ∀ i k, i < k → k < L.length → clash L i k = false) : simple L = true := by
  unfold simple
  simp only [List.all_eq_true, List.mem_range]
  intro i hi k hk
  by_cases hik : i < k
  · rw [h i k hik hk]; simp
  · simp [hik]
theorem simple_at (h : simple L = true) {i k : Nat} (hi : i < k) (hk : k < L.length) : clash L i k = false := by
  cases e : clash L i k with
  | false => rfl
  | true => rw [simple_no hi hk e] at h; cases h

theorem anyF_of {f : Nat → Bool} {n i : Nat} (hi : i < n) (h : f i = true) : anyF f n = true := by
  induction n with
  | zero => omega
  | succ n ih =>
    unfold anyF
    by_cases e : i = n
    · subst e; rw [h]; simp
    · rw [ih (by omega)]; rfl
theorem anyF_no {f : Nat → Bool} {n : Nat} (h : anyF f n = false) {i : Nat} (hi : i < n) : f i = false := by
  cases e : f i with
  | false => rfl
  | true => rw [anyF_of hi e] at h; cases h
theorem anyF_false {f : Nat → Bool} {n : Nat} (h : ∀ i, i < n → f i = false) : anyF f n = false := by
  induction n with
  | zero => rfl
  | succ n ih => unfold anyF; rw [ih (fun i hi => h i (by omega)), h n (by omega)]; rfl
theorem anyF_get {f : Nat → Bool} {n : Nat} (h : anyF f n = true) : ∃ i, i < n ∧ f i = true := by
  induction n with
  | zero => cases h
  | succ n ih =>
    unfold anyF at h
    cases e : f n with
    | true => exact ⟨n, by omega, e⟩
    | false => rw [e, Bool.or_false] at h; obtain ⟨i, hi, hf⟩ := ih h; exact ⟨i, by omega, hf⟩

theorem pvP_true {p : P2} (h : pvP p = true) : -10000 ≤ p.1 ∧ p.1 ≤ 10000 ∧ -10000 ≤ p.2 ∧ p.2 ≤ 10000 := Pt.pv_true h
theorem sv_pv {p : P2} (h : pvP p = true) : Pt.sv p.1 p.2 = true := by have := pvP_true h; exact Pt.sv_in (by omega) (by omega) (by omega) (by omega)
theorem crP_bd {a b : P2} (h : pvP a = true) (h' : pvP b = true) : -200000000 ≤ crP a b ∧ crP a b ≤ 200000000 := by
  have h1 := pvP_true h; have h2 := pvP_true h'
  unfold crP Pt.cr
  have := Pt.mul_bd h1.1 h1.2.1 h2.2.2.1 h2.2.2.2
  have := Pt.mul_bd h1.2.2.1 h1.2.2.2 h2.1 h2.2.1
  omega
theorem sum_bd {f : Nat → Int} {m : Int} (h : ∀ i, -m ≤ f i ∧ f i ≤ m) : ∀ n : Nat, -(m * n) ≤ sumF f n ∧ sumF f n ≤ m * n
  | 0 => by simp [sumF]
  | n + 1 => by
    have h1 := sum_bd h n
    have h2 := h n
    have e : m * ((n + 1 : Nat) : Int) = m * n + m := by rw [Int.natCast_add, Int.mul_add]; simp
    unfold sumF
    omega
theorem area_to (h : okP L = true) (n : Nat) (hn : n ≤ 12) : -2400000000 ≤ sumF (fun i => crP (cy L i) (cy L (i + 1))) n ∧ sumF (fun i => crP (cy L i) (cy L (i + 1))) n ≤ 2400000000 := by
  have := sum_bd (f := fun i => crP (cy L i) (cy L (i + 1))) (m := 200000000) (fun i => crP_bd (okP_at h i) (okP_at h (i + 1))) n
  have : (200000000 : Int) * (n : Int) ≤ 2400000000 := by omega
  omega
theorem area_bd (h : okP L = true) : -2400000000 ≤ areaL L ∧ areaL L ≤ 2400000000 := area_to h _ (okP_len h).2
theorem gapP_bd {a b : P2} (h : pvP a = true) (h' : pvP b = true) : 0 ≤ gapP a b ∧ gapP a b ≤ 20000 := by
  have h1 := pvP_true h; have h2 := pvP_true h'
  unfold gapP
  refine ⟨by omega, ?_⟩
  by_cases e : b.2 - a.2 = 0
  · rw [e]
    simp
    omega
  · have := Quo.gcd_le (b.1 - a.1) (b.2 - a.2) e
    omega
theorem edge_to (h : okP L = true) (n : Nat) (hn : n ≤ 12) : 0 ≤ sumF (fun i => gapP (cy L i) (cy L (i + 1))) n ∧ sumF (fun i => gapP (cy L i) (cy L (i + 1))) n ≤ 240000 := by
  have h2 := sum_bd (f := fun i => gapP (cy L i) (cy L (i + 1))) (m := 20000) (fun i => by have := gapP_bd (okP_at h i) (okP_at h (i + 1)); constructor <;> omega) n
  have h0 : ∀ k : Nat, 0 ≤ sumF (fun i => gapP (cy L i) (cy L (i + 1))) k := fun k => by
    induction k with
    | zero => simp [sumF]
    | succ k ih => unfold sumF; have := gapP_bd (okP_at h k) (okP_at h (k + 1)); omega
  have := h0 n
  have : (20000 : Int) * (n : Int) ≤ 240000 := by omega
  omega
theorem edge_bd (h : okP L = true) : 0 ≤ edgeL L ∧ edgeL L ≤ 240000 := edge_to h _ (okP_len h).2

/-- the points laid flat -/
def fl : List P2 → List Int
  | [] => []
  | p :: l => p.1 :: p.2 :: fl l
theorem fl_len : ∀ L : List P2, (fl L).length = L.length * 2
  | [] => rfl
  | p :: l => by simp [fl, fl_len l]; omega
theorem fl_append : ∀ A B : List P2, fl (A ++ B) = fl A ++ fl B
  | [], B => rfl
  | p :: l, B => by simp [fl, fl_append l B]
theorem fl_at : ∀ {L : List P2} {i : Nat} {p : P2}, L[i]? = some p → (fl L)[i * 2]? = some p.1 ∧ (fl L)[i * 2 + 1]? = some p.2
  | [], i, p, h => by simp at h
  | q :: l, 0, p, h => by simp at h; subst h; simp [fl]
  | q :: l, i + 1, p, h => by
    have h' : l[i]? = some p := by simpa using h
    have := fl_at h'
    have e : (i + 1) * 2 = i * 2 + 1 + 1 := by omega
    rw [e]
    simpa [fl] using this
theorem fl_inj : ∀ {A B : List P2}, fl A = fl B → A = B
  | [], [], _ => rfl
  | [], _ :: _, h => by simp [fl] at h
  | _ :: _, [], h => by simp [fl] at h
  | p :: a, q :: b, h => by
    simp only [fl, List.cons.injEq] at h
    rw [fl_inj h.2.2, Prod.ext h.1 h.2.1]
end Poly
