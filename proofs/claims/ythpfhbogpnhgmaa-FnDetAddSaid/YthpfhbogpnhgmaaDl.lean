/-
  Matrices as lists of rows: their entries, determinants and bounds, and the lists that the promises speak of. No function of the program is named.
-/
import Derived.Test.YthpfhbogpnhgmaaDu
namespace Go.Proofs.Ythpfhbogpnhgmaa
set_option linter.unusedVariables false

/-- a number of a list, 0 beyond -/
def num (l : List Int) (i : Nat) : Int := (l[i]?).getD 0
theorem num_at {l : List Int} {i : Nat} {x : Int} (h : l[i]? = some x) : num l i = x := by unfold num; rw [h]; rfl
theorem at_num {l : List Int} {i : Nat} (h : i < l.length) : l[i]? = some (num l i) := by unfold num; rw [List.getElem?_eq_getElem h]; rfl
/-- a row, none beyond -/
def rowL (L : List (List Int)) (i : Nat) : List Int := (L[i]?).getD []
theorem rowL_at {L : List (List Int)} {i : Nat} {r : List Int} (h : L[i]? = some r) : rowL L i = r := by unfold rowL; rw [h]; rfl
theorem at_rowL {L : List (List Int)} {i : Nat} (h : i < L.length) : L[i]? = some (rowL L i) := by unfold rowL; rw [List.getElem?_eq_getElem h]; rfl
/-- an entry -/
def ent (L : List (List Int)) : Mx := fun i j => num (rowL L i) j
/-- as many rows and columns -/
def Sq (n : Nat) (L : List (List Int)) : Prop := L.length = n ∧ ∀ r ∈ L, r.length = n
theorem Sq.row {n i : Nat} {L : List (List Int)} (h : Sq n L) (hi : i < n) : (rowL L i).length = n := h.2 _ (List.mem_of_getElem? (at_rowL (by rw [h.1]; exact hi)))
/-- entries of at most e -/
def SmE (n : Nat) (e : Int) (a : Mx) : Prop := ∀ i j, i < n → j < n → -e ≤ a i j ∧ a i j ≤ e
/-- a matrix -/
def matOk (L : List (List Int)) : Bool := decide (1 ≤ L.length ∧ L.length ≤ 5 ∧ ∀ r ∈ L, r.length = L.length ∧ ∀ x ∈ r, -1000 ≤ x ∧ x ≤ 1000)
theorem matOk_true {L : List (List Int)} : matOk L = true ↔ 1 ≤ L.length ∧ L.length ≤ 5 ∧ ∀ r ∈ L, r.length = L.length ∧ ∀ x ∈ r, -1000 ≤ x ∧ x ≤ 1000 := by unfold matOk; exact decide_eq_true_iff
theorem matOk.sq {L : List (List Int)} (h : matOk L = true) : Sq L.length L := ⟨rfl, fun r hr => ((matOk_true.1 h).2.2 r hr).1⟩
theorem num_mem {l : List Int} {i : Nat} (h : i < l.length) : num l i ∈ l := List.mem_of_getElem? (at_num h)
theorem rowL_mem {L : List (List Int)} {i : Nat} (h : i < L.length) : rowL L i ∈ L := List.mem_of_getElem? (at_rowL h)
theorem matOk.small {L : List (List Int)} (h : matOk L = true) : SmE L.length 1000 (ent L) := fun i j hi hj =>
  ((matOk_true.1 h).2.2 _ (rowL_mem hi)).2 _ (num_mem (by rw [((matOk_true.1 h).2.2 _ (rowL_mem hi)).1]; exact hj))
/-- a list of rows by its entries -/
def mkL (n : Nat) (f : Mx) : List (List Int) := (List.range n).map (fun i => (List.range n).map (fun j => f i j))
section
variable {n : Nat} {f g : Mx}
theorem mkL_len : (mkL n f).length = n := by simp [mkL]
theorem mkL_row {i : Nat} (h : i < n) : (mkL n f)[i]? = some ((List.range n).map (fun j => f i j)) := by unfold mkL; rw [List.getElem?_map, List.getElem?_range h]; rfl
theorem mkL_sq : Sq n (mkL n f) := ⟨mkL_len, fun r hr => by
  obtain ⟨i, hi, rfl⟩ := List.mem_map.1 hr
  simp⟩
theorem num_map {i : Nat} (h : i < n) (v : Nat → Int) : num ((List.range n).map v) i = v i := num_at (by rw [List.getElem?_map, List.getElem?_range h]; rfl)
theorem ent_mkL {i j : Nat} (hi : i < n) (hj : j < n) : ent (mkL n f) i j = f i j := by
  unfold ent
  rw [rowL_at (mkL_row hi), num_map hj]
theorem list_num {l m : List Int} (h : l.length = m.length) (hn : ∀ i, i < l.length → num l i = num m i) : l = m := by
  refine List.ext_getElem? (fun i => ?_)
  by_cases hi : i < l.length
  · rw [at_num hi, at_num (by omega), hn i hi]
  · rw [List.getElem?_eq_none (by omega), List.getElem?_eq_none (by omega)]
theorem Sq.ext {L M : List (List Int)} (h : Sq n L) (h' : Sq n M) (he : ∀ i j, i < n → j < n → ent L i j = ent M i j) : L = M := by
  refine List.ext_getElem? (fun i => ?_)
  by_cases hi : i < n
  · rw [at_rowL (by rw [h.1]; exact hi), at_rowL (by rw [h'.1]; exact hi)]
    congr 1
    exact list_num (by rw [h.row hi, h'.row hi]) (fun j hj => he i j hi (by rw [h.row hi] at hj; exact hj))
  · rw [List.getElem?_eq_none (by rw [h.1]; omega), List.getElem?_eq_none (by rw [h'.1]; omega)]
theorem Sq.mk {L : List (List Int)} (h : Sq n L) : L = mkL n (ent L) := h.ext mkL_sq (fun i j hi hj => (ent_mkL hi hj).symm)
theorem mkL_congr (h : ∀ i j, i < n → j < n → f i j = g i j) : mkL n f = mkL n g := mkL_sq.ext mkL_sq (fun i j hi hj => by rw [ent_mkL hi hj, ent_mkL hi hj, h i j hi hj])
theorem det_mkL (f : Mx) : det n (ent (mkL n f)) = det n f := det_congr (fun i j hi hj => ent_mkL hi hj)
/-- lists that are a matrix -/
theorem mkL_ok (h1 : 1 ≤ n) (h5 : n ≤ 5) : matOk (mkL n f) = true ↔ SmE n 1000 f := by
  rw [matOk_true, mkL_len]
  constructor
  · rintro ⟨-, -, h⟩ i j hi hj
    have := (h _ (List.mem_of_getElem? (mkL_row hi))).2 (f i j) (List.mem_map.2 ⟨j, List.mem_range.2 hj, rfl⟩)
    exact this
  · intro h
    refine ⟨h1, h5, fun r hr => ?_⟩
    obtain ⟨i, hi, rfl⟩ := List.mem_map.1 hr
    refine ⟨by simp, fun x hx => ?_⟩
    obtain ⟨j, hj, rfl⟩ := List.mem_map.1 hx
    exact h i j (List.mem_range.1 hi) (List.mem_range.1 hj)
end
/-- how great a determinant can be -/
def fct : Nat → Int
  | 0 => 1
  | n + 1 => (n + 1 : Int) * fct n
def pw (e : Int) : Nat → Int
  | 0 => 1
  | n + 1 => e * pw e n
theorem fct_pos : ∀ n, 0 ≤ fct n
  | 0 => by simp [fct]
  | n + 1 => Int.mul_nonneg (by omega) (fct_pos n)
theorem pw_pos {e : Int} (he : 0 ≤ e) : ∀ n, 0 ≤ pw e n
  | 0 => by simp [pw]
  | n + 1 => Int.mul_nonneg he (pw_pos he n)
theorem abs_mul {a b x y : Int} (ha : -x ≤ a ∧ a ≤ x) (hb : -y ≤ b ∧ b ≤ y) : -(x * y) ≤ a * b ∧ a * b ≤ x * y := by
  have h1 : (a.natAbs : Int) ≤ x := by omega
  have h2 : (b.natAbs : Int) ≤ y := by omega
  have h3 : ((a * b).natAbs : Int) ≤ x * y := by
    rw [Int.natAbs_mul, Int.natCast_mul]
    exact Int.mul_le_mul h1 h2 (by omega) (by omega)
  omega
theorem sm_abs {n : Nat} {f : Nat → Int} {c : Int} (h : ∀ i, i < n → -c ≤ f i ∧ f i ≤ c) : -(n * c) ≤ smn n f ∧ smn n f ≤ n * c := by
  induction n with
  | zero => simp [smn]
  | succ n ih =>
    have h1 := ih (fun i hi => h i (by omega))
    have h2 := h n (by omega)
    simp only [smn]
    rw [Int.natCast_succ, Int.add_mul, Int.one_mul]
    omega
theorem det_abs {e : Int} (he : 0 ≤ e) : ∀ (n : Nat) (a : Mx), SmE n e a → -(fct n * pw e n) ≤ det n a ∧ det n a ≤ fct n * pw e n
  | 0, a, _ => by simp [det, fct, pw]
  | n + 1, a, h => by
    have h1 : ∀ j, j < n + 1 → -(e * (fct n * pw e n)) ≤ sgj j * a 0 j * det n (mnr a j) ∧ sgj j * a 0 j * det n (mnr a j) ≤ e * (fct n * pw e n) := fun j hj => by
      have h2 := h 0 j (by omega) hj
      have h3 := det_abs he n (mnr a j) (fun i k hi hk => h (i + 1) (skip j k) (by omega) (skip_lt hk hj))
      refine abs_mul ?_ h3
      unfold sgj
      split <;> omega
    have h4 := sm_abs h1
    simp only [det, fct, pw]
    have e1 : ((n + 1 : Nat) : Int) * (e * (fct n * pw e n)) = (n + 1 : Int) * fct n * (e * pw e n) := by
      rw [Int.natCast_succ]
      simp only [Int.mul_assoc, Int.mul_left_comm]
    rw [e1] at h4
    exact h4
/-- without the first row and a column -/
def cutL (L : List (List Int)) (j : Nat) : List (List Int) := (L.drop 1).map (fun r => r.take j ++ r.drop (j + 1))
theorem num_cut {r : List Int} {j k : Nat} (hj : j < r.length) : num (r.take j ++ r.drop (j + 1)) k = num r (skip j k) := by
  unfold num skip
  rw [List.getElem?_append]
  have hl : (r.take j).length = j := by rw [List.length_take]; omega
  rw [hl]
  by_cases h : k < j
  · rw [if_pos h, if_pos h, List.getElem?_take, if_pos h]
  · rw [if_neg h, if_neg h, List.getElem?_drop, show j + 1 + (k - j) = k + 1 by omega]
theorem cut_sq {n j : Nat} {L : List (List Int)} (h : Sq (n + 1) L) (hj : j < n + 1) : Sq n (cutL L j) := by
  refine ⟨by unfold cutL; rw [List.length_map, List.length_drop, h.1]; omega, fun r hr => ?_⟩
  obtain ⟨r0, h0, rfl⟩ := List.mem_map.1 hr
  have := h.2 r0 (List.mem_of_mem_drop h0)
  rw [List.length_append, List.length_take, List.length_drop]; omega
theorem ent_cut {n i j k : Nat} {L : List (List Int)} (h : Sq (n + 1) L) (hj : j < n + 1) (hi : i < n) : ent (cutL L j) i k = mnr (ent L) j i k := by
  have h1 : L[i + 1]? = some (rowL L (i + 1)) := at_rowL (by rw [h.1]; omega)
  have h2 : (cutL L j)[i]? = some ((rowL L (i + 1)).take j ++ (rowL L (i + 1)).drop (j + 1)) := by
    unfold cutL
    rw [List.getElem?_map, List.getElem?_drop, Nat.add_comm 1 i, h1]; rfl
  show num (rowL (cutL L j) i) k = num (rowL L (i + 1)) (skip j k)
  rw [rowL_at h2, num_cut (by rw [h.row (by omega)]; exact hj)]
theorem det_cut {n j : Nat} {L : List (List Int)} (h : Sq (n + 1) L) (hj : j < n + 1) : det n (ent (cutL L j)) = det n (mnr (ent L) j) := det_congr (fun i k hi hk => ent_cut h hj hi)
end Go.Proofs.Ythpfhbogpnhgmaa
