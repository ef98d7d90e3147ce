/-
  Trees of a net: weights turned, a run left out, the runs of a tree moved to the front, one run for another. No function of the program is named.
-/
import Derived.Test.YtimghdffmdcheaaTh
namespace Go.Proofs.Ytimghdffmdcheaa
set_option linter.unusedVariables false

theorem Asc.sub_ok {N : Nat} {rs : List Rn} {T : List Int} (h : Asc rs.length T) (hn : nOk N rs = true) (hl : T.length ≤ 12) : nOk N (sub rs T) = true := by
  obtain ⟨h1, h2, h3, h4⟩ := nOk_true hn
  exact nOk_of h1 h2 (by rw [sub_len]; exact hl) (fun i r hi => by
    obtain ⟨j, hj⟩ := List.getElem?_of_mem (h.mem_sub (Nat.le_refl _) r (List.mem_of_getElem? hi))
    exact h4 j r hj)

/-! weights -/
/-- the runs with weights turned by g -/
def reW (g : Int → Int) (rs : List Rn) : List Rn := rs.map (fun r => { r with g := g r.g })
theorem same_reW {g : Int → Int} {rs : List Rn} {i j : Int} : Same (reW g rs) i j ↔ Same rs i j := by
  constructor
  · intro h p hp
    exact h p (fun r hr => by obtain ⟨r', hr', rfl⟩ := List.mem_map.1 hr; exact hp r' hr')
  · intro h p hp
    exact h p (fun r hr => hp { r with g := g r.g } (List.mem_map.2 ⟨r, hr, rfl⟩))
theorem reW_len (g : Int → Int) (rs : List Rn) : (reW g rs).length = rs.length := by simp [reW]
theorem runOf_reW {g : Int → Int} {rs : List Rn} {z : Int} (h0 : 0 ≤ z) (h1 : z < rs.length) : runOf (reW g rs) z = { runOf rs z with g := g (runOf rs z).g } := by
  have := runOf_at h0 h1
  unfold runOf reW at *
  rw [List.getElem?_map, this]; rfl
theorem sub_reW {g : Int → Int} {rs : List Rn} {T : List Int} (h : Asc rs.length T) : sub (reW g rs) T = reW g (sub rs T) := by
  unfold sub
  rw [show reW g (List.map (runOf rs) T) = T.map (fun z => { runOf rs z with g := g (runOf rs z).g }) by simp [reW]]
  exact List.map_congr_left (fun z hz => by obtain ⟨a, b⟩ := h.rng z hz; exact runOf_reW a b)
theorem nOk_reW {N : Nat} {g : Int → Int} {rs : List Rn} (hn : nOk N rs = true) (hg : ∀ r ∈ rs, 1 ≤ g r.g ∧ g r.g ≤ 9) : nOk N (reW g rs) = true := by
  obtain ⟨h1, h2, h3, h4⟩ := nOk_true hn
  refine nOk_of h1 h2 (by rw [reW_len]; exact h3) (fun i r hi => ?_)
  unfold reW at hi
  rw [List.getElem?_map] at hi
  obtain ⟨x, hx, rfl⟩ := Option.map_eq_some_iff.1 hi
  obtain ⟨a1, a2, a3, a4, a5, a6, a7, a8, a9⟩ := rOk_true (h4 i x hx)
  obtain ⟨g1, g2⟩ := hg x (List.mem_of_getElem? hx)
  exact rOk_of a1 a2 a3 a4 a5 a6 a7 g1 g2
theorem tree_reW {N : Nat} {g : Int → Int} {rs : List Rn} {T : List Int} (hn : nOk N rs = true) (hg : nOk N (reW g rs) = true) : IsTree N (reW g rs) T ↔ IsTree N rs T := by
  have hN := (nOk_true hn).1
  have hN6 := (nOk_true hn).2.1
  constructor
  · intro h
    have ha : Asc rs.length T := by have := h.asc; rwa [reW_len] at this
    refine ⟨hn, h.len, ha, whole_of (ha.sub_ok hn (by have := h.len; omega)) (fun i hi => ?_)⟩
    have := whole_same h.whole hi
    rw [sub_reW ha] at this
    exact same_reW.1 this
  · intro h
    have ha : Asc (reW g rs).length T := by rw [reW_len]; exact h.asc
    refine ⟨hg, h.len, ha, whole_of (ha.sub_ok hg (by have := h.len; omega)) (fun i hi => ?_)⟩
    rw [sub_reW h.asc]
    exact same_reW.2 (whole_same h.whole hi)
theorem trees_reW {N : Nat} {g : Int → Int} {rs : List Rn} (hn : nOk N rs = true) (hg : nOk N (reW g rs) = true) : trees N (reW g rs) = trees N rs := by
  unfold trees
  rw [reW_len]
  refine List.filter_congr (fun T _ => ?_)
  apply Bool.eq_iff_iff.2
  rw [isT_true, isT_true]
  exact tree_reW hn hg
theorem foldl_mul (l : List Int) : ∀ a : Int, l.foldl (· * ·) a = a * l.foldl (· * ·) 1 := by
  induction l with
  | nil => intro a; simp
  | cons x l ih => intro a; simp only [List.foldl_cons]; rw [ih (a * x), ih (1 * x)]; simp [Int.mul_assoc]
theorem foldl_add (l : List Int) : ∀ a : Int, l.foldl (· + ·) a = a + l.foldl (· + ·) 0 := by
  induction l with
  | nil => intro a; simp
  | cons x l ih => intro a; simp only [List.foldl_cons]; rw [ih (a + x), ih (0 + x)]; omega
theorem prod_one (l : List Int) (h : ∀ x ∈ l, x = 1) : l.foldl (· * ·) 1 = 1 := by
  induction l with
  | nil => rfl
  | cons x l ih =>
    simp only [List.foldl_cons]
    rw [h x (by simp)]
    exact ih (fun y hy => h y (List.mem_cons_of_mem _ hy))
theorem prod_two (l : List Int) : (l.map (2 * ·)).foldl (· * ·) 1 = 2 ^ l.length * l.foldl (· * ·) 1 := by
  induction l with
  | nil => simp
  | cons x l ih =>
    simp only [List.map_cons, List.foldl_cons, List.length_cons]
    rw [foldl_mul _ (1 * (2 * x)), foldl_mul _ (1 * x), ih, Int.pow_succ]
    grind
theorem prod_pos (l : List Int) (h : ∀ x ∈ l, 1 ≤ x) : 1 ≤ l.foldl (· * ·) 1 := by
  induction l with
  | nil => exact Int.le_refl _
  | cons x l ih =>
    simp only [List.foldl_cons]
    rw [foldl_mul]
    have a := h x (by simp)
    have b := ih (fun y hy => h y (List.mem_cons_of_mem _ hy))
    have : 1 * x * 1 ≤ 1 * x * l.foldl (· * ·) 1 := Int.mul_le_mul_of_nonneg_left b (by omega)
    omega
theorem weigh_pos {N : Nat} {rs : List Rn} {T : List Int} (hn : nOk N rs = true) (h : Asc rs.length T) : 1 ≤ weigh rs T := by
  refine prod_pos _ (fun x hx => ?_)
  obtain ⟨z, hz, rfl⟩ := List.mem_map.1 hx
  obtain ⟨z0, z1⟩ := h.rng z hz
  have := rOk_true ((nOk_true hn).2.2.2 _ _ (runOf_at z0 z1))
  omega
theorem sum_const (l : List (List Int)) (f : List Int → Int) (h : ∀ T ∈ l, f T = 1) : (l.map f).foldl (· + ·) 0 = (l.length : Int) := by
  induction l with
  | nil => rfl
  | cons x l ih =>
    simp only [List.map_cons, List.foldl_cons, List.length_cons]
    rw [foldl_add, ih (fun T hT => h T (List.mem_cons_of_mem _ hT)), h x (by simp)]
    omega
theorem sum_mul (l : List (List Int)) (f g : List Int → Int) (c : Int) (h : ∀ T ∈ l, f T = c * g T) : (l.map f).foldl (· + ·) 0 = c * (l.map g).foldl (· + ·) 0 := by
  induction l with
  | nil => simp
  | cons x l ih =>
    simp only [List.map_cons, List.foldl_cons]
    rw [foldl_add, foldl_add (l.map g), ih (fun T hT => h T (List.mem_cons_of_mem _ hT)), h x (by simp)]
    simp [Int.mul_add]
theorem sum_ge (l : List (List Int)) (f : List Int → Int) (h : ∀ T ∈ l, 1 ≤ f T) : (l.length : Int) ≤ (l.map f).foldl (· + ·) 0 := by
  induction l with
  | nil => simp
  | cons x l ih =>
    simp only [List.map_cons, List.foldl_cons, List.length_cons]
    rw [foldl_add]
    have := ih (fun T hT => h T (List.mem_cons_of_mem _ hT))
    have := h x (by simp)
    omega
/-- with all weights 1 trees are counted -/
theorem heavy_one {N : Nat} {rs : List Rn} (hn : nOk N rs = true) : nOk N (reW (fun _ => 1) rs) = true ∧ heavy N (reW (fun _ => 1) rs) = many N rs := by
  have hg := nOk_reW (g := fun _ => 1) hn (fun r _ => ⟨by omega, by omega⟩)
  refine ⟨hg, ?_⟩
  unfold heavy many
  rw [trees_reW hn hg]
  refine sum_const _ _ (fun T hT => ?_)
  have ha := (mem_trees.1 hT).asc
  refine prod_one _ (fun x hx => ?_)
  obtain ⟨z, hz, rfl⟩ := List.mem_map.1 hx
  obtain ⟨z0, z1⟩ := ha.rng z hz
  rw [runOf_reW z0 z1]
/-- with all weights doubled -/
theorem heavy_two {N : Nat} {rs : List Rn} (hn : nOk N rs = true) (h2 : ∀ r ∈ rs, 2 * r.g ≤ 9) : nOk N (reW (2 * ·) rs) = true ∧ heavy N (reW (2 * ·) rs) = 2 ^ (N - 1) * heavy N rs := by
  have hg := nOk_reW (g := (2 * ·)) hn (fun r hr => ⟨by
    obtain ⟨i, hi⟩ := List.getElem?_of_mem hr
    have := rOk_true ((nOk_true hn).2.2.2 i r hi); omega, h2 r hr⟩)
  refine ⟨hg, ?_⟩
  unfold heavy
  rw [trees_reW hn hg]
  refine sum_mul _ _ _ _ (fun T hT => ?_)
  have ht := mem_trees.1 hT
  have hl : T.length = N - 1 := by have := ht.len; omega
  have e : weigh (reW (2 * ·) rs) T = ((T.map (fun z => (runOf rs z).g)).map (2 * ·)).foldl (· * ·) 1 := by
    unfold weigh
    congr 1
    rw [List.map_map]
    exact List.map_congr_left (fun z hz => by obtain ⟨a, b⟩ := ht.asc.rng z hz; simp only [Function.comp]; rw [runOf_reW a b])
  rw [e, prod_two, List.length_map, hl]; rfl
theorem heavy_ge {N : Nat} {rs : List Rn} (hn : nOk N rs = true) : (many N rs : Int) ≤ heavy N rs :=
  sum_ge _ _ (fun T hT => weigh_pos hn (mem_trees.1 hT).asc)

/-! the runs of a tree -/
theorem tree_loops {N : Nat} {rs : List Rn} {T : List Int} (h : IsTree N rs T) : nLoops N (sub rs T) = 0 := by
  have h1 := whole_iff.1 h.whole
  rw [nLoops_yes h1.1]
  have : roots (labs N (sub rs T)) N = 1 := h1.2
  rw [this, sub_len]
  have := h.len
  omega
/-- without any one of its runs not all nodes are linked -/
theorem tree_less {N : Nat} {rs : List Rn} {T U : List Int} (h : IsTree N rs T) (hU : U.length + 1 = T.length) (hm : ∀ z ∈ U, z ∈ T) : nWhole N (sub rs U) = false := by
  apply Bool.eq_false_iff.2
  intro hw
  have h1 := whole_iff.1 hw
  have he : EndsIn N (sub rs U) := h.ends.sub (fun r hr => by
    obtain ⟨z, hz, rfl⟩ := mem_subOf.1 hr
    exact mem_subOf.2 ⟨z, hm z hz, rfl⟩)
  have := rk_ge he
  rw [sub_len] at this
  have := h.len
  omega
/-- runs without a loop at the front are the first tree -/
theorem first_front {N : Nat} {us vs : List Rn} (hok : EndsIn N (us ++ vs)) (hf : Free N us) : ∀ j : Nat, j ≤ us.length → firstT N (us ++ vs) j = (List.range j).map Int.ofNat ∧ sub (us ++ vs) (firstT N (us ++ vs) j) = us.take j := by
  intro j
  induction j with
  | zero => intro _; exact ⟨rfl, rfl⟩
  | succ j ih =>
    intro hj
    obtain ⟨e1, e2⟩ := ih (by omega)
    obtain ⟨r, hr⟩ : ∃ r, us[j]? = some r := ⟨_, List.getElem?_eq_getElem (by omega)⟩
    have hr' : (us ++ vs)[j]? = some r := by rw [List.getElem?_append_left (by omega)]; exact hr
    have hs := take_succ_of hr
    have hends : EndsIn N (us.take j ++ [r] ++ us.drop (j + 1)) := by rw [← hs, List.take_append_drop]; exact hok.left
    have hfree : Free N (us.take j ++ [r] ++ us.drop (j + 1)) := by rw [← hs, List.take_append_drop]; exact hf
    have hne := (hfree.left hends).ne hends.left
    have ht := firstT_take (N := N) hr' (by rw [e2]; exact hne)
    refine ⟨by rw [ht, e1, List.range_succ]; simp, ?_⟩
    rw [ht, sub_snoc _ _ j hr', e2, hs]
theorem first_front_all {N : Nat} {us vs : List Rn} (hN : 0 < N) (hok : EndsIn N (us ++ vs)) (hf : Free N us) (h1 : rk N us = 1) : firstT N (us ++ vs) (us ++ vs).length = (List.range us.length).map Int.ofNat := by
  obtain ⟨e1, e2⟩ := first_front hok hf us.length (Nat.le_refl _)
  rw [List.take_length] at e2
  have key : ∀ d : Nat, d ≤ vs.length → firstT N (us ++ vs) (us.length + d) = firstT N (us ++ vs) us.length := by
    intro d
    induction d with
    | zero => intro _; rfl
    | succ d ih =>
      intro hd
      have ih := ih (by omega)
      obtain ⟨r, hr⟩ : ∃ r, (us ++ vs)[us.length + d]? = some r := ⟨_, List.getElem?_eq_getElem (by simp; omega)⟩
      obtain ⟨a0, a1, a2, a3⟩ := hok r (List.mem_of_getElem? hr)
      rw [← Nat.add_assoc, firstT_skip hr, ih]
      rw [ih, e2]
      have hs := (rk_one hN).1 h1
      have b1 := hs r.f.toNat (by omega)
      have b2 := hs r.t.toNat (by omega)
      rw [Int.toNat_of_nonneg a0] at b1
      rw [Int.toNat_of_nonneg a2] at b2
      exact (lab_same a0 a1 a2 a3).2 (b1.symm.trans b2)
  rw [List.length_append, key vs.length (Nat.le_refl _), e1]
/-- one run of a tree for another: any ascending list with these members is a tree -/
theorem exchange_tree {N : Nat} {rs : List Rn} {T X : List Int} {k : Int} {i : Nat} {r : Rn} (h : IsTree N rs T) (hr : runOf rs k = r)
    (hi : ∀ j : Nat, j < N → Same (r :: sub rs (T.take i ++ T.drop (i + 1))) 0 j) (ha : Asc rs.length X) (hl : X.length = T.length) (hk : k ∈ X) (hm : ∀ z ∈ T.take i ++ T.drop (i + 1), z ∈ X) : IsTree N rs X := by
  have hN := (nOk_true h.ok).1
  have hN6 := (nOk_true h.ok).2.1
  refine ⟨h.ok, by have := h.len; omega, ha, whole_of (ha.sub_ok h.ok (by have := h.len; omega)) (fun j hj => (hi j hj).ends (EndsOf.of_mem (fun x hx => ?_)))⟩
  rcases List.mem_cons.1 hx with rfl | hx
  · exact mem_subOf.2 ⟨k, hk, hr⟩
  · obtain ⟨z, hz, rfl⟩ := mem_subOf.1 hx
    exact mem_subOf.2 ⟨z, hm z hz, rfl⟩
end Go.Proofs.Ytimghdffmdcheaa
