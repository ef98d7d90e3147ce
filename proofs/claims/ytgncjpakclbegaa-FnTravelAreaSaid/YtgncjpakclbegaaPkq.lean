/-
  The parts of a parcel have one side in common; the parts of the parcel begun at the second index are the same ones exchanged; the parcel moved. No function of the program is named.
-/
import Derived.Test.YtgncjpakclbegaaYma
namespace Poly
variable {L : List P2}

theorem mod2 {n x : Nat} (h : x < 2 * n) : x % n = if x < n then x else x - n := by
  split
  · next h1 => exact Nat.mod_eq_of_lt h1
  · next h1 => rw [Nat.mod_eq_sub_mod (by omega), Nat.mod_eq_of_lt (by omega)]
theorem opp_iff (a b : List P2) (i k : Nat) : oppP a b i k = true ↔ cy a i = cy b (k + 1) ∧ cy a (i + 1) = cy b k := by
  unfold oppP; rw [Bool.and_eq_true, decide_eq_true_eq, decide_eq_true_eq]
theorem common_split (hv : polyV L = true) {i j : Nat} (hij : i < j) (hj : j < L.length) : commonL (splA L i j) (splB L i j) = 1 := by
  obtain ⟨hok, hs⟩ := polyV_parts hv
  have hl3 := (okP_len hok).1
  have h0 : 0 < L.length := by omega
  have no1 : ∀ s t, s < j - i → t < L.length - j + i + 1 → oppP (splA L i j) (splB L i j) s t = false := by
    intro s t hs1 ht
    cases e : oppP (splA L i j) (splB L i j) s t with
    | false => rfl
    | true =>
      exfalso
      obtain ⟨e1, e2⟩ := (opp_iff _ _ _ _).1 e
      rw [cy_splA hij hj (show s + 1 ≤ j - i by omega), cy_splB hij hj (show t ≤ L.length - j + i by omega)] at e2
      have m2 := corner_mod hs h0 e2
      rw [mod2 (by omega), mod2 (by omega)] at m2
      rw [cy_splA hij hj (show s ≤ j - i by omega)] at e1
      by_cases h2 : t < L.length - j + i
      · rw [cy_splB hij hj (show t + 1 ≤ L.length - j + i by omega)] at e1
        have m1 := corner_mod hs h0 e1
        rw [mod2 (by omega), mod2 (by omega)] at m1
        split at m1 <;> split at m2 <;> split at m1 <;> (try split at m2) <;> omega
      · split at m2 <;> split at m2 <;> omega
  have no2 : ∀ t, t < L.length - j + i → oppP (splA L i j) (splB L i j) (j - i) t = false := by
    intro t ht
    cases e : oppP (splA L i j) (splB L i j) (j - i) t with
    | false => rfl
    | true =>
      exfalso
      obtain ⟨e1, -⟩ := (opp_iff _ _ _ _).1 e
      rw [cy_splA hij hj (Nat.le_refl _), cy_splB hij hj (show t + 1 ≤ L.length - j + i by omega), show i + (j - i) = j by omega] at e1
      have m1 := corner_mod hs h0 e1
      rw [mod2 (by omega), mod2 (by omega)] at m1
      split at m1 <;> split at m1 <;> omega
  have yes : oppP (splA L i j) (splB L i j) (j - i) (L.length - j + i) = true := by
    refine (opp_iff _ _ _ _).2 ⟨?_, ?_⟩
    · rw [cy_splA hij hj (Nat.le_refl _), cy_splB_end hij hj, show i + (j - i) = j by omega]
    · rw [cy_splA_end hij hj, cy_splB hij hj (Nat.le_refl _), show j + (L.length - j + i) = i + L.length by omega, cy_add]
  unfold commonL
  rw [splA_len hij hj, splB_len hij hj]
  show sumF _ (j - i) + comRow (splA L i j) (splB L i j) (j - i) (L.length - j + i + 1) = 1
  rw [sum_none (f := fun s => comRow (splA L i j) (splB L i j) s (L.length - j + i + 1)) (fun s hs1 => count_none (fun t ht => no1 s t hs1 ht))]
  show 0 + (sumF _ (L.length - j + i) + b2i (oppP (splA L i j) (splB L i j) (j - i) (L.length - j + i))) = 1
  rw [count_none (fun t ht => no2 t ht), yes]
  rfl
/-- begun at the second index, the parts are the same ones exchanged -/
theorem beg_split {i j : Nat} (hij : i < j) (hj : j < L.length) : splA (begL L j) 0 (L.length - j + i) = splB L i j ∧ splB (begL L j) 0 (L.length - j + i) = splA L i j := by
  have hd : (L.drop j).length = L.length - j := List.length_drop
  have ht : (L.take j).length = j := by rw [List.length_take]; omega
  constructor
  · unfold splA splB begL
    rw [List.drop_zero, Nat.sub_zero, List.take_append, hd, show L.length - j + i + 1 - (L.length - j) = i + 1 by omega, List.take_of_length_le (by rw [hd]; omega), List.take_take, Nat.min_eq_left (by omega)]
  · unfold splA splB begL
    have e1 : (L.drop j ++ L.take j).drop (L.length - j + i) = (L.take j).drop i := by
      rw [List.drop_append, hd, List.drop_eq_nil_of_le (by rw [hd]; omega), List.nil_append]
      congr 1
      omega
    have e2 : (L.drop j ++ L.take j).take (0 + 1) = (L.drop j).take 1 := by
      rw [List.take_append, hd, show 0 + 1 - (L.length - j) = 0 by omega]
      simp
    rw [e1, e2, List.drop_take]
    have e3 : j + 1 - i = (j - i) + 1 := by omega
    rw [e3, List.take_add, List.drop_drop, show i + (j - i) = j by omega]
theorem parV_beg (h : parV L = true) {k : Nat} (hk : k < L.length) : parV (begL L k) = true := parV_mk (polyV_beg (parV_poly h) hk) (by rw [area_beg hk]; exact parV_area h)
/-- every corner three further both ways -/
def shP (p : P2) : P2 := (p.1 + 3, p.2 + 3)
def shL (L : List P2) : List P2 := L.map shP
theorem sh_len (L : List P2) : (shL L).length = L.length := by unfold shL; simp
theorem cy_sh (h : 0 < L.length) (i : Nat) : cy (shL L) i = shP (cy L i) := by
  unfold cy
  rw [sh_len]
  have hm := Nat.mod_lt i h
  rw [getD_at (by rw [sh_len]; exact hm), getD_at hm]
  unfold shL
  simp
theorem crs_sh (a b c : P2) : crs (shP a) (shP b) (shP c) = crs a b c := by unfold crs shP; simp only; congr 1 <;> omega
theorem onP_sh (a b c : P2) : onP (shP a) (shP b) (shP c) = onP a b c := by
  have e := crs_sh a b c
  unfold onP Pt.onB
  apply decide_eq_decide.2
  unfold crs at e
  rw [e]
  unfold shP
  simp only
  constructor <;> rintro ⟨h0, h1, h2, h3, h4⟩ <;> exact ⟨h0, by omega, by omega, by omega, by omega⟩
theorem sd_sh (a b c : P2) : sd (shP a) (shP b) (shP c) = sd a b c := by unfold sd; rw [crs_sh]
theorem meet_sh (a b c d : P2) : meet (shP a) (shP b) (shP c) (shP d) = meet a b c d := by
  unfold meet touch parts
  simp only [onP_sh, sd_sh]
theorem clash_sh (h : 0 < L.length) (i k : Nat) : clash (shL L) i k = clash L i k := by
  unfold clash
  simp only [cy_sh h, onP_sh, meet_sh, sh_len]
theorem simple_sh (h : 0 < L.length) : simple (shL L) = simple L := by
  unfold simple
  simp only [sh_len, clash_sh h]
theorem area_sh (h : 0 < L.length) : areaL (shL L) = areaL L := by
  have e : ∀ n : Nat, sumF (fun i => crP (cy (shL L) i) (cy (shL L) (i + 1))) n = sumF (fun i => crP (cy L i) (cy L (i + 1))) n + (3 * ((cy L n).2 - (cy L n).1) - 3 * ((cy L 0).2 - (cy L 0).1)) := by
    intro n
    induction n with
    | zero => simp [sumF]
    | succ n ih =>
      show sumF (fun i => crP (cy (shL L) i) (cy (shL L) (i + 1))) n + crP (cy (shL L) n) (cy (shL L) (n + 1)) = sumF (fun i => crP (cy L i) (cy L (i + 1))) n + crP (cy L n) (cy L (n + 1)) + _
      rw [ih, cy_sh h, cy_sh h]
      unfold crP Pt.cr shP
      simp only
      grind
  unfold areaL
  rw [sh_len, e]
  have := cy_add (L := L) 0
  rw [Nat.zero_add] at this
  rw [this]
  omega
theorem parV_sh (hv : parV L = true) (hok : okP (shL L) = true) : parV (shL L) = true := by
  have hl := okP_len (parV_ok hv)
  refine parV_mk ?_ (by rw [area_sh (by omega)]; exact parV_area hv)
  unfold polyV
  rw [hok, simple_sh (by omega), (polyV_parts (parV_poly hv)).2]
  rfl
theorem okP_shift (h3 : 3 ≤ L.length) (h12 : L.length ≤ 12) (h : ∀ i, i < L.length → pvP (shP (cy L i)) = true) : okP (shL L) = true :=
  okP_of (by rw [sh_len]; exact h3) (by rw [sh_len]; exact h12) (fun i hi => by rw [sh_len] at hi; rw [cy_sh (by omega)]; exact h i hi)
theorem parV_back (hv : parV L = true) : parV (backL L) = false := by
  refine parV_neg ?_
  have := parV_area hv
  rw [area_back (by have := okP_len (parV_ok hv); omega)]
  omega
end Poly
