/-
  Shares of an amount: floors and remainders, who gets one more, and what that means: sums, bounds, exactness, order, and that no whole shares are nearer. No function of the program is named.
  Whole shares of an amount: the floors, and 1 more for the greatest remainders; what the promises say of them. No function of the program is named.
-/
import Derived.WalkKit
namespace Go.Proofs.Ytgncjpakclbegaa
set_option linter.unusedVariables false

/-- what a list adds up to -/
def tot : List Int → Int
  | [] => 0
  | x :: l => x + tot l
theorem tot_append : ∀ (l m : List Int), tot (l ++ m) = tot l + tot m
  | [], m => by simp [tot]
  | x :: l, m => by rw [List.cons_append, tot, tot, tot_append l m]; omega
theorem tot_take {l : List Int} {i : Nat} {x : Int} (h : l[i]? = some x) : tot (l.take (i + 1)) = tot (l.take i) + x := by
  rw [List.take_add_one, h, tot_append]; simp [tot]
theorem tot_nonneg : ∀ {l : List Int}, (∀ x ∈ l, 0 ≤ x) → 0 ≤ tot l
  | [], _ => by simp [tot]
  | x :: l, h => by
    have h1 := h x (by simp)
    have h2 := tot_nonneg (l := l) (fun y hy => h y (by simp [hy]))
    rw [tot]; omega
theorem tot_le {c : Int} : ∀ {l : List Int}, (∀ x ∈ l, x ≤ c) → tot l ≤ c * l.length
  | [], _ => by simp [tot]
  | x :: l, h => by
    have h1 := h x (by simp)
    have h2 := tot_le (l := l) (fun y hy => h y (by simp [hy]))
    rw [tot, List.length_cons, Int.natCast_add, Int.mul_add]; omega
theorem tot_ge {c : Int} : ∀ {l : List Int}, (∀ x ∈ l, c ≤ x) → c * l.length ≤ tot l
  | [], _ => by simp [tot]
  | x :: l, h => by
    have h1 := h x (by simp)
    have h2 := tot_ge (l := l) (fun y hy => h y (by simp [hy]))
    rw [tot, List.length_cons, Int.natCast_add, Int.mul_add]; omega
/-- sums over the indexes below n of a function -/
def sig (n : Nat) (f : Nat → Int) : Int := tot ((List.range n).map f)
theorem sig_zero (f : Nat → Int) : sig 0 f = 0 := rfl
theorem sig_succ (n : Nat) (f : Nat → Int) : sig (n + 1) f = sig n f + f n := by unfold sig; rw [List.range_succ, List.map_append, tot_append]; simp [tot]
theorem sig_congr {n : Nat} {f g : Nat → Int} (h : ∀ i, i < n → f i = g i) : sig n f = sig n g := by
  induction n with
  | zero => rfl
  | succ n ih => rw [sig_succ, sig_succ, ih (fun i hi => h i (by omega)), h n (by omega)]
theorem sig_add (n : Nat) (f g : Nat → Int) : sig n (fun i => f i + g i) = sig n f + sig n g := by
  induction n with
  | zero => rfl
  | succ n ih => rw [sig_succ, sig_succ, sig_succ, ih]; omega
theorem sig_mul (n : Nat) (c : Int) (f : Nat → Int) : sig n (fun i => c * f i) = c * sig n f := by
  induction n with
  | zero => simp [sig_zero]
  | succ n ih => rw [sig_succ, sig_succ, ih, Int.mul_add]
theorem sig_le {n : Nat} {f g : Nat → Int} (h : ∀ i, i < n → f i ≤ g i) : sig n f ≤ sig n g := by
  induction n with
  | zero => exact Int.le_refl _
  | succ n ih =>
    rw [sig_succ, sig_succ]
    have := ih (fun i hi => h i (by omega))
    have := h n (by omega)
    omega
theorem sig_const (n : Nat) (c : Int) : sig n (fun _ => c) = c * n := by
  induction n with
  | zero => simp [sig_zero]
  | succ n ih => rw [sig_succ, ih, Int.natCast_add, Int.mul_add]; omega
theorem sig_lt {n : Nat} {f : Nat → Int} {c : Int} (hn : 0 < n) (h : ∀ i, i < n → f i < c) : sig n f < c * n := by
  have := sig_le (n := n) (f := f) (g := fun _ => c - 1) (fun i hi => by have := h i hi; omega)
  rw [sig_const, Int.sub_mul] at this
  omega
theorem sig_ge_one {n : Nat} {f : Nat → Int} (h : ∀ i, i < n → 0 ≤ f i) {k : Nat} (hk : k < n) : f k ≤ sig n f := by
  induction n with
  | zero => omega
  | succ n ih =>
    rw [sig_succ]
    by_cases e : k = n
    · subst e
      have := sig_le (n := k) (f := fun _ => 0) (g := f) (fun i hi => h i (by omega))
      rw [sig_const] at this
      omega
    · have := ih (fun i hi => h i (by omega)) (by omega)
      have := h n (by omega)
      omega
/-- the element at an index, 0 beyond -/
def nth (l : List Int) (i : Nat) : Int := (l[i]?).getD 0
theorem nth_at {l : List Int} {i : Nat} {x : Int} (h : l[i]? = some x) : nth l i = x := by unfold nth; rw [h]; rfl
theorem at_nth {l : List Int} {i : Nat} (h : i < l.length) : l[i]? = some (nth l i) := by unfold nth; rw [List.getElem?_eq_getElem h]; rfl
theorem tot_sig (l : List Int) : tot l = sig l.length (nth l) := by
  have h : ∀ k, k ≤ l.length → tot (l.take k) = sig k (nth l) := by
    intro k
    induction k with
    | zero => intro _; simp [tot, sig_zero]
    | succ k ih => intro hk; rw [tot_take (at_nth (by omega)), ih (by omega), sig_succ]
  have := h l.length (Nat.le_refl _)
  rwa [List.take_length] at this

/-- lengths -/
def lenOk (ls : List Int) : Bool := decide (1 ≤ ls.length ∧ ls.length ≤ 20 ∧ (∀ x ∈ ls, 0 ≤ x ∧ x ≤ 10000) ∧ 0 < tot ls)
theorem lenOk_true {ls : List Int} : lenOk ls = true ↔ 1 ≤ ls.length ∧ ls.length ≤ 20 ∧ (∀ x ∈ ls, 0 ≤ x ∧ x ≤ 10000) ∧ 0 < tot ls := by unfold lenOk; exact decide_eq_true_iff
def amtOk (ls : List Int) (a : Int) : Bool := lenOk ls && decide (-10000000 ≤ a ∧ a ≤ 10000000)
theorem amtOk_true {ls : List Int} {a : Int} : amtOk ls a = true ↔ lenOk ls = true ∧ -10000000 ≤ a ∧ a ≤ 10000000 := by unfold amtOk; rw [Bool.and_eq_true, decide_eq_true_iff]
/-- floors and remainders -/
def fl (ls : List Int) (a : Int) (i : Nat) : Int := a * nth ls i / tot ls
def re (ls : List Int) (a : Int) (i : Nat) : Int := a * nth ls i % tot ls
/-- as many are missing -/
def mis (ls : List Int) (a : Int) : Int := a - sig ls.length (fl ls a)
/-- i comes before k -/
def bef (r : Nat → Int) (i k : Nat) : Prop := r k < r i ∨ (r i = r k ∧ i < k)
theorem bef_not {r : Nat → Int} {i k : Nat} (h : bef r i k) : ¬ bef r k i := by unfold bef at *; omega
theorem bef_or {r : Nat → Int} {i k : Nat} (h : i ≠ k) : bef r i k ∨ bef r k i := by unfold bef; omega
theorem bef_trans {r : Nat → Int} {i j k : Nat} (h : bef r i j) (h' : bef r j k) : bef r i k := by unfold bef at *; omega
/-- 1 where p holds -/
noncomputable def ind (p : Nat → Prop) (i : Nat) : Int := open Classical in if p i then 1 else 0
theorem ind_pos {p : Nat → Prop} {i : Nat} (h : p i) : ind p i = 1 := if_pos h
theorem ind_neg {p : Nat → Prop} {i : Nat} (h : ¬ p i) : ind p i = 0 := if_neg h
theorem ind_low (p : Nat → Prop) (i : Nat) : 0 ≤ ind p i ∧ ind p i ≤ 1 := by
  by_cases h : p i
  · rw [ind_pos h]; omega
  · rw [ind_neg h]; omega
/-- t of the indexes below n, all of them before all others -/
structure Top (n : Nat) (r : Nat → Int) (t : Int) (T : Nat → Prop) : Prop where
  lt : ∀ i, T i → i < n
  cnt : sig n (ind T) = t
  fst : ∀ i k, T i → k < n → ¬ T k → bef r i k
section
variable {n : Nat} {r : Nat → Int} {t : Int} {T U : Nat → Prop}
theorem ind_sub {p q : Nat → Prop} (h : ∀ i, i < n → p i → q i) : sig n (ind p) ≤ sig n (ind q) := sig_le (fun i hi => by
  by_cases hp : p i
  · rw [ind_pos hp, ind_pos (h i hi hp)]; omega
  · rw [ind_neg hp]; exact (ind_low q i).1)
theorem ind_sub_lt {p q : Nat → Prop} (h : ∀ i, i < n → p i → q i) {k : Nat} (hk : k < n) (hq : q k) (hp : ¬ p k) : sig n (ind p) < sig n (ind q) := by
  have h1 : sig n (fun i => ind p i + (if i = k then 1 else 0)) ≤ sig n (ind q) := sig_le (fun i hi => by
    by_cases e : i = k
    · subst e; rw [if_pos rfl, ind_neg hp, ind_pos hq]; omega
    · rw [if_neg e]
      by_cases hp' : p i
      · rw [ind_pos hp', ind_pos (h i hi hp')]; omega
      · rw [ind_neg hp']; have := (ind_low q i).1; omega)
  rw [sig_add] at h1
  have h2 := sig_ge_one (n := n) (f := fun i => if i = k then (1 : Int) else 0) (fun i _ => by show (0 : Int) ≤ if i = k then 1 else 0; split <;> omega) hk
  simp only [if_true] at h2
  omega
/-- there is at most one such set -/
theorem Top.unique (h : Top n r t T) (h' : Top n r t U) : ∀ i, T i ↔ U i := by
  have key : ∀ {T U : Nat → Prop}, Top n r t T → Top n r t U → ∀ i, T i → U i := by
    intro T U h h' i hi
    refine Classical.byContradiction (fun hc => ?_)
    by_cases hex : ∃ k, U k ∧ ¬ T k
    · obtain ⟨k, hk, hk'⟩ := hex
      exact bef_not (h.fst i k hi (h'.lt k hk) hk') (h'.fst k i hk (h.lt i hi) hc)
    · have := ind_sub_lt (n := n) (p := U) (q := T) (fun j _ hj => Classical.byContradiction (fun hn => hex ⟨j, hj, hn⟩)) (h.lt i hi) hi hc
      rw [h.cnt, h'.cnt] at this; omega
  exact fun i => ⟨key h h' i, key h' h i⟩
theorem Top.zero : Top n r 0 (fun _ => False) := ⟨fun i h => h.elim, by rw [sig_congr (g := fun _ => 0) (fun i _ => ind_neg (fun h => h)), sig_const]; omega, fun i k h => h.elim⟩
/-- the best of the others is added -/
theorem Top.next (h : Top n r t T) {b : Nat} (hb : b < n) (hn : ¬ T b) (hf : ∀ k, k < n → ¬ T k → k ≠ b → bef r b k) : Top n r (t + 1) (fun i => T i ∨ i = b) := by
  refine ⟨fun i hi => hi.elim (h.lt i) (fun e => by omega), ?_, fun i k hi hk hk' => ?_⟩
  · have e : sig n (ind (fun i => T i ∨ i = b)) = sig n (fun i => ind T i + ind (fun i => i = b) i) := sig_congr (fun i hi => by
      by_cases e : i = b
      · subst e; rw [ind_pos (.inr rfl), ind_neg hn, ind_pos (p := fun j => j = i) rfl]; omega
      · rw [ind_neg (p := fun i => i = b) e]
        by_cases ht : T i
        · rw [ind_pos (.inl ht), ind_pos ht]; omega
        · rw [ind_neg (p := fun i => T i ∨ i = b) (fun hh => hh.elim ht e), ind_neg ht]; omega)
    rw [e, sig_add, h.cnt]
    have : ∀ m, b < m → sig m (ind (fun i => i = b)) = 1 := by
      intro m
      induction m with
      | zero => intro h; omega
      | succ m ih =>
        intro hm
        rw [sig_succ]
        by_cases e : b = m
        · subst e
          rw [ind_pos (p := fun i => i = b) rfl, sig_congr (g := fun _ => 0) (fun i hi => ind_neg (by omega)), sig_const]; omega
        · rw [ind_neg (p := fun i => i = b) (by omega), ih (by omega)]; omega
    rw [this n hb]
  · have hk1 : ¬ T k := fun hh => hk' (.inl hh)
    have hk2 : k ≠ b := fun hh => hk' (.inr hh)
    rcases hi with hi | rfl
    · exact h.fst i k hi hk hk1
    · exact hf k hk hk1 hk2
theorem Top.le (h : Top n r t T) : 0 ≤ t ∧ t ≤ n := by
  have h1 := sig_le (n := n) (f := fun _ => 0) (g := ind T) (fun i _ => (ind_low T i).1)
  have h2 := sig_le (n := n) (f := ind T) (g := fun _ => 1) (fun i _ => (ind_low T i).2)
  rw [sig_const, h.cnt] at h1
  rw [sig_const, h.cnt] at h2
  omega
theorem Top.more (h : Top n r t T) (ht : t < n) : ∃ b, b < n ∧ ¬ T b := Classical.byContradiction (fun hc => by
  have := sig_le (n := n) (f := fun _ => 1) (g := ind T) (fun i hi => by rw [ind_pos (Classical.byContradiction (fun hn => hc ⟨i, hi, hn⟩))]; exact Int.le_refl _)
  rw [sig_const, h.cnt] at this; omega)
/-- the best of the others, if there is one -/
theorem best_of : ∀ m : Nat, (∃ k, k < m ∧ ¬ T k) → ∃ b, b < m ∧ ¬ T b ∧ ∀ k, k < m → ¬ T k → k ≠ b → bef r b k
  | 0, ⟨k, hk, _⟩ => by omega
  | m + 1, ⟨k, hk, hk'⟩ => by
    by_cases hex : ∃ k, k < m ∧ ¬ T k
    · obtain ⟨b, hb, hb', hf⟩ := best_of m hex
      by_cases hm : T m
      · exact ⟨b, by omega, hb', fun j hj hj' hne => hf j (by
          rcases Nat.lt_or_ge j m with h | h
          · exact h
          · have : j = m := by omega
            subst this; exact absurd hm hj') hj' hne⟩
      · rcases bef_or (r := r) (i := b) (k := m) (by omega) with hbm | hmb
        · exact ⟨b, by omega, hb', fun j hj hj' hne => by
            by_cases e : j = m
            · subst e; exact hbm
            · exact hf j (by omega) hj' hne⟩
        · exact ⟨m, by omega, hm, fun j hj hj' hne => by
            by_cases e : j = b
            · subst e; exact hmb
            · exact bef_trans hmb (hf j (by omega) hj' e)⟩
    · refine ⟨k, hk, hk', fun j hj hj' hne => absurd ?_ hex⟩
      by_cases e : k = m
      · exact ⟨j, by omega, hj'⟩
      · exact ⟨k, by omega, hk'⟩
theorem Top.some : ∀ t : Nat, t ≤ n → ∃ T, Top n r t T
  | 0, _ => ⟨_, Top.zero⟩
  | t + 1, ht => by
    obtain ⟨T, hT⟩ := Top.some t (by omega)
    obtain ⟨b, hb, hb', hf⟩ := best_of (r := r) n (hT.more (by omega))
    exact ⟨_, by have := hT.next hb hb' hf; rw [Int.natCast_add]; exact this⟩
/-- what is not taken has no greater remainder -/
theorem Top.ge (h : Top n r t T) {i k : Nat} (hi : T i) (hk : k < n) (hn : ¬ T k) : r k ≤ r i := by
  have := h.fst i k hi hk hn
  unfold bef at this; omega
/-- there is a remainder between those taken and the others -/
theorem Top.cut (h : Top n r t T) : ∃ c, (∀ i, T i → c ≤ r i) ∧ ∀ k, k < n → ¬ T k → r k ≤ c := by
  by_cases hex : ∃ i, T i
  · have : ∀ m : Nat, (∃ i, i < m ∧ T i) → ∃ i, T i ∧ ∀ j, j < m → T j → r i ≤ r j := by
      intro m
      induction m with
      | zero => rintro ⟨i, hi, _⟩; omega
      | succ m ih =>
        rintro ⟨i, hi, hT⟩
        by_cases hm : ∃ i, i < m ∧ T i
        · obtain ⟨j, hj, hf⟩ := ih hm
          by_cases hTm : T m ∧ r m < r j
          · exact ⟨m, hTm.1, fun q hq hTq => by
              by_cases e : q = m
              · subst e; exact Int.le_refl _
              · have := hf q (by omega) hTq; omega⟩
          · exact ⟨j, hj, fun q hq hTq => by
              by_cases e : q = m
              · subst e; exact Classical.byContradiction (fun hc => hTm ⟨hTq, by omega⟩)
              · exact hf q (by omega) hTq⟩
        · exact ⟨i, hT, fun q hq hTq => by
            by_cases e : q = i
            · subst e; exact Int.le_refl _
            · refine absurd ?_ hm
              by_cases e1 : i = m
              · exact ⟨q, by omega, hTq⟩
              · exact ⟨i, by omega, hT⟩⟩
    obtain ⟨i, hi⟩ := hex
    obtain ⟨j, hj, hf⟩ := this n ⟨i, h.lt i hi, hi⟩
    exact ⟨r j, fun q hq => hf q (h.lt q hq) hq, fun k hk hn => h.ge hj hk hn⟩
  · obtain ⟨c, hc⟩ : ∃ c, ∀ k, k < n → r k ≤ c := by
      clear h hex
      induction n with
      | zero => exact ⟨0, fun k hk => by omega⟩
      | succ n ih =>
        obtain ⟨c, hc⟩ := ih
        refine ⟨max c (r n), fun k hk => ?_⟩
        by_cases e : k = n
        · subst e; omega
        · have := hc k (by omega); omega
    exact ⟨c, fun i hi => absurd ⟨i, hi⟩ hex, fun k hk _ => hc k hk⟩
/-- as many others have no greater remainders together -/
theorem Top.most (h : Top n r t T) (hU : sig n (ind U) = t) : sig n (fun i => ind U i * r i) ≤ sig n (fun i => ind T i * r i) := by
  obtain ⟨c, h1, h2⟩ := h.cut
  have e : sig n (fun i => ind U i * r i + c * ind T i) ≤ sig n (fun i => ind T i * r i + c * ind U i) := sig_le (fun i hi => by
    by_cases hT : T i
    · by_cases hU : U i
      · rw [ind_pos hT, ind_pos hU]; omega
      · rw [ind_pos hT, ind_neg hU]; have := h1 i hT; omega
    · by_cases hU : U i
      · rw [ind_neg hT, ind_pos hU]; have := h2 i hi hT; omega
      · rw [ind_neg hT, ind_neg hU]; omega)
  rw [sig_add, sig_add, sig_mul, sig_mul, hU, h.cnt] at e
  omega
end
end Go.Proofs.Ytgncjpakclbegaa
namespace Go.Proofs.Ytgncjpakclbegaa
set_option linter.unusedVariables false

noncomputable def topOf (n : Nat) (r : Nat → Int) (t : Int) : Nat → Prop := open Classical in if h : ∃ T, Top n r t T then Classical.choose h else fun _ => False
theorem topOf_is {n : Nat} {r : Nat → Int} {t : Int} (h : ∃ T, Top n r t T) : Top n r t (topOf n r t) := by unfold topOf; rw [dif_pos h]; exact Classical.choose_spec h
noncomputable def tk (ls : List Int) (a : Int) : Nat → Prop := topOf ls.length (re ls a) (mis ls a)
noncomputable def sh (ls : List Int) (a : Int) (i : Nat) : Int := fl ls a i + ind (tk ls a) i
noncomputable def shr (ls : List Int) (a : Int) : List Int := (List.range ls.length).map (sh ls a)
/-- how far shares are from the exact ones, times all lengths -/
def far1 (ls : List Int) (a : Int) (xs : List Int) (i : Nat) : Int := ((nth xs i * tot ls - a * nth ls i).natAbs : Int)
def farL (ls : List Int) (a : Int) (xs : List Int) : Int := sig ls.length (far1 ls a xs)
def rngOk (ls xs : List Int) : Prop := xs.length = ls.length ∧ ∀ x ∈ xs, -20000000 ≤ x ∧ x ≤ 20000000
noncomputable def okS (ls : List Int) (a : Int) (xs : List Int) : Bool := open Classical in decide (amtOk ls a = true ∧ rngOk ls xs ∧ (∀ i, i < ls.length → far1 ls a xs i < tot ls) ∧ tot xs = a)
noncomputable def farS (ls : List Int) (a : Int) (xs : List Int) : Int := open Classical in if amtOk ls a = true ∧ rngOk ls xs then farL ls a xs else -1
section
variable {ls : List Int} {a : Int} {xs : List Int} {i k : Nat}
theorem shr_len : (shr ls a).length = ls.length := by simp [shr]
theorem nth_shr (hi : i < ls.length) : nth (shr ls a) i = sh ls a i := by
  unfold nth shr
  rw [List.getElem?_map, List.getElem?_range hi]; rfl
theorem nth_mem {l : List Int} (h : i < l.length) : nth l i ∈ l := List.mem_of_getElem? (at_nth h)
theorem sig_single (n : Nat) (c : Int) {k : Nat} (hk : k < n) : sig n (fun i => if i = k then c else 0) = c := by
  induction n with
  | zero => omega
  | succ n ih =>
    rw [sig_succ]
    by_cases e : k = n
    · subst e
      rw [if_pos rfl, sig_congr (g := fun _ => 0) (fun i hi => if_neg (by omega)), sig_const]; omega
    · rw [if_neg (by omega), ih (by omega)]; omega
/-- two elements changed -/
theorem sig_two {n : Nat} {f g : Nat → Int} {i k : Nat} (hi : i < n) (hk : k < n) (hik : i ≠ k) (h : ∀ j, j < n → j ≠ i → j ≠ k → f j = g j) : sig n f = sig n g + (f i - g i) + (f k - g k) := by
  have : sig n f = sig n (fun j => (g j + (if j = i then f i - g i else 0)) + (if j = k then f k - g k else 0)) := sig_congr (fun j hj => by
    by_cases e1 : j = i
    · subst e1; rw [if_pos rfl, if_neg hik]; omega
    · by_cases e2 : j = k
      · subst e2; rw [if_neg e1, if_pos rfl]; omega
      · rw [if_neg e1, if_neg e2, h j hj e1 e2]; omega)
  rw [this, sig_add, sig_add, sig_single n _ hi, sig_single n _ hk]
theorem sig_one {n : Nat} {f g : Nat → Int} {i : Nat} (hi : i < n) (h : ∀ j, j < n → j ≠ i → f j = g j) : sig n f = sig n g + (f i - g i) := by
  have : sig n f = sig n (fun j => g j + (if j = i then f i - g i else 0)) := sig_congr (fun j hj => by
    by_cases e1 : j = i
    · subst e1; rw [if_pos rfl]; omega
    · rw [if_neg e1, h j hj e1]; omega)
  rw [this, sig_add, sig_single n _ hi]

theorem pos_of (h : lenOk ls = true) : 0 < tot ls := (lenOk_true.1 h).2.2.2
theorem nth_low (h : lenOk ls = true) (hi : i < ls.length) : 0 ≤ nth ls i ∧ nth ls i ≤ 10000 := (lenOk_true.1 h).2.2.1 _ (nth_mem hi)
theorem nth_tot (h : lenOk ls = true) (hi : i < ls.length) : nth ls i ≤ tot ls := by
  rw [tot_sig]; exact sig_ge_one (fun j hj => (nth_low h hj).1) hi
theorem tot_most (h : lenOk ls = true) : tot ls ≤ 200000 := by
  have h1 := tot_le (l := ls) (c := 10000) (fun x hx => ((lenOk_true.1 h).2.2.1 x hx).2)
  have := (lenOk_true.1 h).2.1
  omega
theorem fl_re (h : lenOk ls = true) (i : Nat) : a * nth ls i = tot ls * fl ls a i + re ls a i ∧ 0 ≤ re ls a i ∧ re ls a i < tot ls := by
  have hp := pos_of h
  unfold fl re
  refine ⟨(Int.mul_ediv_add_emod _ _).symm, Int.emod_nonneg _ (by omega), Int.emod_lt_of_pos _ hp⟩
theorem re_sum (h : lenOk ls = true) : sig ls.length (re ls a) = tot ls * mis ls a := by
  have h1 : sig ls.length (fun i => a * nth ls i) = sig ls.length (fun i => tot ls * fl ls a i + re ls a i) := sig_congr (fun i _ => (fl_re h i).1)
  rw [sig_mul, ← tot_sig, sig_add, sig_mul] at h1
  unfold mis
  rw [Int.mul_sub, Int.mul_comm (tot ls) a]; omega
theorem mis_low (h : lenOk ls = true) : 0 ≤ mis ls a ∧ mis ls a < ls.length := by
  have hp := pos_of h
  have hn : 0 < ls.length := by have := (lenOk_true.1 h).1; omega
  have h1 := sig_le (n := ls.length) (f := fun _ => 0) (g := re ls a) (fun i _ => (fl_re h i).2.1)
  have h2 := sig_lt (n := ls.length) (f := re ls a) hn (fun i _ => (fl_re h i).2.2)
  rw [sig_const, re_sum h] at h1
  rw [re_sum h] at h2
  constructor
  · rcases Int.lt_or_le (mis ls a) 0 with hc | hc
    · have := Int.mul_neg_of_pos_of_neg hp hc; omega
    · exact hc
  · exact Int.lt_of_mul_lt_mul_left h2 (by omega)
theorem tk_is (h : lenOk ls = true) : Top ls.length (re ls a) (mis ls a) (tk ls a) := by
  have hm := mis_low (a := a) h
  obtain ⟨T, hT⟩ := Top.some (r := re ls a) (n := ls.length) (mis ls a).toNat (by omega)
  rw [show (((mis ls a).toNat : Nat) : Int) = mis ls a by omega] at hT
  exact topOf_is ⟨T, hT⟩
/-- whatever set of them is taken, it is this one -/
theorem sh_of (h : lenOk ls = true) {T : Nat → Prop} (hT : Top ls.length (re ls a) (mis ls a) T) (i : Nat) : fl ls a i + ind T i = sh ls a i := by
  have := (tk_is (a := a) h).unique hT i
  unfold sh
  by_cases hi : T i
  · rw [ind_pos hi, ind_pos (this.2 hi)]
  · rw [ind_neg hi, ind_neg (fun hh => hi (this.1 hh))]
theorem taken_pos (h : lenOk ls = true) (hi : tk ls a i) : 0 < re ls a i := by
  have ht := tk_is (a := a) h
  refine Classical.byContradiction (fun hc => ?_)
  have h1 := sig_le (n := ls.length) (f := re ls a) (g := fun k => (tot ls - 1) * ind (tk ls a) k) (fun k hk => by
    by_cases hk' : tk ls a k
    · rw [ind_pos hk']; have := (fl_re (a := a) h k).2.2; omega
    · rw [ind_neg hk']; have := ht.ge hi hk hk'; omega)
  rw [sig_mul, ht.cnt, re_sum h, Int.sub_mul] at h1
  have h2 := sig_ge_one (n := ls.length) (f := ind (tk ls a)) (fun k _ => (ind_low _ k).1) (ht.lt i hi)
  rw [ht.cnt, ind_pos hi] at h2
  omega
theorem shr_sum (h : lenOk ls = true) : tot (shr ls a) = a := by
  rw [tot_sig, shr_len, sig_congr (g := fun i => fl ls a i + ind (tk ls a) i) (fun i hi => nth_shr hi), sig_add, (tk_is h).cnt]
  unfold mis; omega
theorem sh_dif (h : lenOk ls = true) (i : Nat) : sh ls a i * tot ls - a * nth ls i = ind (tk ls a) i * tot ls - re ls a i := by
  rw [(fl_re h i).1]; unfold sh
  rw [Int.add_mul, Int.mul_comm (tot ls)]; omega
theorem sh_far (h : lenOk ls = true) (i : Nat) : ((sh ls a i * tot ls - a * nth ls i).natAbs : Int) < tot ls ∧ ((sh ls a i * tot ls - a * nth ls i).natAbs : Int) = re ls a i + ind (tk ls a) i * (tot ls - 2 * re ls a i) := by
  obtain ⟨-, h1, h2⟩ := fl_re (a := a) h i
  rw [sh_dif h]
  by_cases hi : tk ls a i
  · have := taken_pos h hi
    rw [ind_pos hi]; omega
  · rw [ind_neg hi]; omega
theorem sh_low (h : amtOk ls a = true) (hi : i < ls.length) : -10000001 ≤ sh ls a i ∧ sh ls a i ≤ 10000001 := by
  obtain ⟨hl, h0, h1⟩ := amtOk_true.1 h
  have hp := pos_of hl
  obtain ⟨e, r0, r1⟩ := fl_re (a := a) hl i
  obtain ⟨l0, -⟩ := nth_low hl hi
  have l1 := nth_tot hl hi
  have hd := ind_low (tk ls a) i
  have u1 : a * nth ls i ≤ 10000000 * tot ls := Int.le_trans (Int.mul_le_mul_of_nonneg_right h1 l0) (Int.mul_le_mul_of_nonneg_left l1 (by omega))
  have u2 : -(10000000 * tot ls) ≤ a * nth ls i := by
    have := Int.le_trans (Int.mul_le_mul_of_nonneg_right (show -a ≤ 10000000 by omega) l0) (Int.mul_le_mul_of_nonneg_left l1 (by omega : (0 : Int) ≤ 10000000))
    rw [Int.neg_mul] at this; omega
  have v1 : fl ls a i ≤ 10000000 := Int.le_of_mul_le_mul_left (a := tot ls) (by rw [Int.mul_comm (tot ls) 10000000]; omega) hp
  have v2 : -10000001 < fl ls a i := Int.lt_of_mul_lt_mul_left (a := tot ls) (by rw [Int.mul_comm (tot ls) (-10000001)]; omega) (by omega)
  unfold sh; omega
theorem shr_mem {x : Int} (hx : x ∈ shr ls a) : ∃ i, i < ls.length ∧ x = sh ls a i := by
  unfold shr at hx
  obtain ⟨i, hi, rfl⟩ := List.mem_map.1 hx
  exact ⟨i, List.mem_range.1 hi, rfl⟩
theorem shr_rng (h : amtOk ls a = true) : rngOk ls (shr ls a) := ⟨shr_len, fun x hx => by
  obtain ⟨i, hi, rfl⟩ := shr_mem hx
  have := sh_low h hi; omega⟩
theorem far1_shr (hi : i < ls.length) : far1 ls a (shr ls a) i = ((sh ls a i * tot ls - a * nth ls i).natAbs : Int) := by unfold far1; rw [nth_shr hi]

/-! promise 33 -/
theorem shr_zero (h : lenOk ls = true) (hz : nth ls i = 0) : sh ls a i = 0 := by
  have e0 : fl ls a i = 0 := by unfold fl; rw [hz, Int.mul_zero, Int.zero_ediv]
  have e1 : re ls a i = 0 := by unfold re; rw [hz, Int.mul_zero, Int.zero_emod]
  have : ¬ tk ls a i := fun hi => by have := taken_pos h hi; omega
  unfold sh; rw [e0, ind_neg this]; rfl
theorem shr_exact (h : lenOk ls = true) {c : Int} (hc : a = tot ls * c) (i : Nat) : sh ls a i = c * nth ls i := by
  have hp := pos_of h
  have e0 : fl ls a i = c * nth ls i := by unfold fl; rw [hc, Int.mul_assoc, Int.mul_ediv_cancel_left _ (by omega)]
  have e1 : re ls a i = 0 := by unfold re; rw [hc, Int.mul_assoc, Int.mul_emod_right]
  have : ¬ tk ls a i := fun hi => by have := taken_pos h hi; omega
  unfold sh; rw [e0, ind_neg this, Int.add_zero]
theorem shr_mono (h : lenOk ls = true) (ha : 0 ≤ a) (hk : k < ls.length) (hlt : nth ls k < nth ls i) : sh ls a k ≤ sh ls a i := by
  have hp := pos_of h
  obtain ⟨ei, i0, i1⟩ := fl_re (a := a) h i
  obtain ⟨ek, k0, k1⟩ := fl_re (a := a) h k
  have hle : a * nth ls k ≤ a * nth ls i := Int.mul_le_mul_of_nonneg_left (by omega) ha
  have hd := ind_low (tk ls a) i
  have hd' := ind_low (tk ls a) k
  have hq : fl ls a k ≤ fl ls a i := by unfold fl; exact Int.ediv_le_ediv hp hle
  unfold sh
  by_cases e : fl ls a k = fl ls a i
  · rw [e] at ek
    by_cases htk : tk ls a k
    · have hti : tk ls a i := Classical.byContradiction (fun hn => by
        by_cases hia : i < ls.length
        · have := (tk_is h).ge htk hia hn
          have h0 := taken_pos h htk
          have heq : a * nth ls k = a * nth ls i := by omega
          by_cases ha0 : a = 0
          · subst ha0; rw [Int.zero_mul] at ek
            have : re ls 0 k = 0 := by unfold re; rw [Int.zero_mul, Int.zero_emod]
            omega
          · have := Int.mul_lt_mul_of_pos_left hlt (show 0 < a by omega); omega
        · have : nth ls i = 0 := by unfold nth; rw [List.getElem?_eq_none (by omega)]; rfl
          have := (nth_low h hk).1; omega)
      rw [ind_pos htk, ind_pos hti]; omega
    · rw [ind_neg htk]; omega
  · omega
theorem okS_true : okS ls a xs = true ↔ amtOk ls a = true ∧ rngOk ls xs ∧ (∀ i, i < ls.length → far1 ls a xs i < tot ls) ∧ tot xs = a := by unfold okS; simp
theorem shr_ok (h : amtOk ls a = true) : okS ls a (shr ls a) = true := by
  have hl := (amtOk_true.1 h).1
  exact okS_true.2 ⟨h, shr_rng h, fun i hi => by rw [far1_shr hi]; exact (sh_far hl i).1, shr_sum hl⟩
theorem farS_yes (h : amtOk ls a = true) (hr : rngOk ls xs) : farS ls a xs = farL ls a xs := if_pos ⟨h, hr⟩
theorem farS_no (h : ¬ (amtOk ls a = true ∧ rngOk ls xs)) : farS ls a xs = -1 := if_neg h
theorem farL_nonneg : 0 ≤ farL ls a xs := by
  have := sig_le (n := ls.length) (f := fun _ => 0) (g := far1 ls a xs) (fun i _ => by unfold far1; omega)
  rw [sig_const] at this
  unfold farL; omega

/-! promise 34 -/
theorem shr_swap (h : lenOk ls = true) (hi : i < ls.length) (hk : k < ls.length) (hik : i ≠ k) (h1 : nth xs i = sh ls a i - 1) (h2 : nth xs k = sh ls a k + 1) (h3 : ∀ j, j < ls.length → j ≠ i → j ≠ k → nth xs j = sh ls a j) : farL ls a (shr ls a) ≤ farL ls a xs := by
  have e := sig_two (n := ls.length) (f := far1 ls a xs) (g := far1 ls a (shr ls a)) hi hk hik (fun j hj hji hjk => by unfold far1; rw [h3 j hj hji hjk, nth_shr hj])
  unfold farL
  rw [e]
  have hp := pos_of h
  rw [far1_shr hi, far1_shr hk]
  unfold far1
  rw [h1, h2, Int.sub_mul, Int.add_mul, Int.one_mul]
  have di := sh_dif (a := a) h i
  have dk := sh_dif (a := a) h k
  obtain ⟨-, i0, i1⟩ := fl_re (a := a) h i
  obtain ⟨-, k0, k1⟩ := fl_re (a := a) h k
  by_cases hti : tk ls a i
  · have pi := taken_pos h hti
    rw [ind_pos hti] at di
    by_cases htk : tk ls a k
    · have pk := taken_pos h htk
      rw [ind_pos htk] at dk
      omega
    · have := (tk_is h).ge hti hk htk
      rw [ind_neg htk] at dk
      omega
  · rw [ind_neg hti] at di
    by_cases htk : tk ls a k
    · have pk := taken_pos h htk
      rw [ind_pos htk] at dk
      omega
    · rw [ind_neg htk] at dk
      omega

/-! promise 35 -/
theorem shr_more (h : lenOk ls = true) (i : Nat) : sh ls (a + tot ls) i = sh ls a i + nth ls i := by
  have hp := pos_of h
  have e0 : ∀ j, fl ls (a + tot ls) j = fl ls a j + nth ls j := fun j => by
    unfold fl; rw [Int.add_mul, Int.add_mul_ediv_left _ _ (by omega)]
  have e1 : re ls (a + tot ls) = re ls a := funext (fun j => by unfold re; rw [Int.add_mul, Int.add_mul_emod_self_left])
  have e2 : mis ls (a + tot ls) = mis ls a := by
    unfold mis
    rw [sig_congr (g := fun j => fl ls a j + nth ls j) (fun j _ => e0 j), sig_add, ← tot_sig]; omega
  unfold sh tk
  rw [e0, e1, e2]; omega

/-! promise 36 -/
theorem far_least (h : okS ls a xs = true) : farL ls a (shr ls a) ≤ farL ls a xs ∧ farL ls a xs < tot ls * ls.length := by
  obtain ⟨ha, ⟨hlen, hrg⟩, hf, hs⟩ := okS_true.1 h
  have hl := (amtOk_true.1 ha).1
  have hp := pos_of hl
  have hn : 0 < ls.length := by have := (lenOk_true.1 hl).1; omega
  refine ⟨?_, sig_lt hn hf⟩
  have step : ∀ i, i < ls.length → nth xs i = fl ls a i + ind (fun j => nth xs j = fl ls a j + 1) i ∧ far1 ls a xs i = re ls a i + ind (fun j => nth xs j = fl ls a j + 1) i * (tot ls - 2 * re ls a i) := by
    intro i hi
    obtain ⟨e, r0, r1⟩ := fl_re (a := a) hl i
    have hfi := hf i hi
    unfold far1 at hfi ⊢
    obtain ⟨u, hu⟩ : ∃ u, nth xs i = fl ls a i + u := ⟨nth xs i - fl ls a i, by omega⟩
    have hd : nth xs i * tot ls - a * nth ls i = u * tot ls - re ls a i := by
      rw [e, hu, Int.add_mul, Int.mul_comm (tot ls)]; omega
    rw [hd] at hfi ⊢
    have hu0 : -1 < u := Int.lt_of_mul_lt_mul_right (a := tot ls) (by omega) (by omega)
    have hu1 : u < 2 := Int.lt_of_mul_lt_mul_right (a := tot ls) (by omega) (by omega)
    by_cases e1 : u = 1
    · subst e1
      rw [ind_pos (p := fun j => nth xs j = fl ls a j + 1) hu]
      omega
    · have e2 : u = 0 := by omega
      subst e2
      rw [ind_neg (p := fun j => nth xs j = fl ls a j + 1) (by omega)]
      omega
  have hU : sig ls.length (ind (fun j => nth xs j = fl ls a j + 1)) = mis ls a := by
    have h1 := tot_sig xs
    rw [hs, hlen, sig_congr (fun i hi => (step i hi).1), sig_add] at h1
    unfold mis; omega
  have hm := (tk_is (a := a) hl).most hU
  have e1 : farL ls a xs = sig ls.length (re ls a) + tot ls * mis ls a - 2 * sig ls.length (fun i => ind (fun j => nth xs j = fl ls a j + 1) i * re ls a i) := by
    unfold farL
    rw [sig_congr (g := fun i => (re ls a i + tot ls * ind (fun j => nth xs j = fl ls a j + 1) i) + (-2) * (ind (fun j => nth xs j = fl ls a j + 1) i * re ls a i)) (fun i hi => by
      rw [(step i hi).2]
      rcases (show ind (fun j => nth xs j = fl ls a j + 1) i = 0 ∨ ind (fun j => nth xs j = fl ls a j + 1) i = 1 by have := ind_low (fun j => nth xs j = fl ls a j + 1) i; omega) with e | e
      · rw [e]; omega
      · rw [e]; omega), sig_add, sig_add, sig_mul, sig_mul, hU]
    omega
  have e2 : farL ls a (shr ls a) = sig ls.length (re ls a) + tot ls * mis ls a - 2 * sig ls.length (fun i => ind (tk ls a) i * re ls a i) := by
    unfold farL
    rw [sig_congr (g := fun i => (re ls a i + tot ls * ind (tk ls a) i) + (-2) * (ind (tk ls a) i * re ls a i)) (fun i hi => by
      rw [far1_shr hi, (sh_far hl i).2]
      rcases (show ind (tk ls a) i = 0 ∨ ind (tk ls a) i = 1 by have := ind_low (tk ls a) i; omega) with e | e
      · rw [e]; omega
      · rw [e]; omega), sig_add, sig_add, sig_mul, sig_mul, (tk_is hl).cnt]
    omega
  rw [e1, e2]; omega

/-! promise 37 -/
theorem far_step {ys : List Int} (h : lenOk ls = true) (hk : k < ls.length) (h1 : nth ys k = nth xs k + 1) (h2 : ∀ j, j < ls.length → j ≠ k → nth ys j = nth xs j) : farL ls a ys - farL ls a xs ≤ tot ls ∧ -tot ls ≤ farL ls a ys - farL ls a xs := by
  have hp := pos_of h
  have e := sig_one (n := ls.length) (f := far1 ls a ys) (g := far1 ls a xs) hk (fun j hj hne => by unfold far1; rw [h2 j hj hne])
  unfold farL
  rw [e]
  unfold far1
  rw [h1, Int.add_mul, Int.one_mul]; omega
theorem far_zero : farL ls a xs = 0 ↔ ∀ i, i < ls.length → nth xs i * tot ls = a * nth ls i := by
  unfold farL
  constructor
  · intro h i hi
    have := sig_ge_one (n := ls.length) (f := far1 ls a xs) (fun j _ => by unfold far1; omega) hi
    rw [h] at this
    unfold far1 at this; omega
  · intro h
    rw [sig_congr (g := fun _ => 0) (fun i hi => by unfold far1; rw [h i hi]; omega), sig_const]; omega

/-! promise 38 -/
/-- rises with shares of the opposite of their sum added -/
noncomputable def rsh (ls ss : List Int) : List Int := (List.range ls.length).map (fun i => nth ss i + sh ls (-tot ss) i)
theorem rsh_len {ss : List Int} : (rsh ls ss).length = ls.length := by simp [rsh]
theorem nth_rsh {ss : List Int} (hi : i < ls.length) : nth (rsh ls ss) i = nth ss i + sh ls (-tot ss) i := by
  unfold nth rsh
  rw [List.getElem?_map, List.getElem?_range hi]; rfl
theorem rsh_sum {ss : List Int} (h : lenOk ls = true) (hl : ss.length = ls.length) : tot (rsh ls ss) = 0 := by
  have h1 := shr_sum (a := -tot ss) h
  rw [tot_sig, shr_len, sig_congr (fun i hi => nth_shr hi)] at h1
  rw [tot_sig, rsh_len, sig_congr (fun i hi => nth_rsh hi), sig_add, h1]
  have := tot_sig ss
  rw [hl] at this
  omega
theorem list_ext {l m : List Int} (h : l.length = m.length) (hn : ∀ i, i < l.length → nth l i = nth m i) : l = m := by
  apply List.ext_getElem?
  intro i
  by_cases hi : i < l.length
  · rw [at_nth hi, at_nth (by omega), hn i hi]
  · rw [List.getElem?_eq_none (by omega), List.getElem?_eq_none (by omega)]
theorem rsh_same {ss : List Int} (h : lenOk ls = true) (hl : ss.length = ls.length) (hs : tot ss = 0) : rsh ls ss = ss := by
  refine list_ext (by rw [rsh_len, hl]) (fun i hi => ?_)
  rw [rsh_len] at hi
  rw [nth_rsh hi, shr_exact h (c := 0) (by rw [hs]; omega)]; omega
end
end Go.Proofs.Ytgncjpakclbegaa
