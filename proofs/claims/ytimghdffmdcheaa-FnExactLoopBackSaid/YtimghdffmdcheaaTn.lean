/-
  Trees of a net: that they exchange runs; all lists of so many indexes, and those that are trees; how many there are, and by weight. No function of the program is named.
-/
import Derived.Test.YtimghdffmdcheaaTm
namespace Go.Proofs.Ytimghdffmdcheaa
set_option linter.unusedVariables false

theorem sub_get {rs : List Rn} {T : List Int} {i : Nat} {z : Int} (h : T[i]? = some z) : (sub rs T)[i]? = some (runOf rs z) := by unfold sub; rw [List.getElem?_map, h]; rfl
theorem mem_subOf {rs : List Rn} {T : List Int} {r : Rn} : r ∈ sub rs T ↔ ∃ z ∈ T, runOf rs z = r := by unfold sub; simp
theorem take_succ_of {α : Type} {l : List α} {i : Nat} {x : α} (h : l[i]? = some x) : l.take (i + 1) = l.take i ++ [x] := by rw [List.take_add_one, h]; rfl
theorem split_at {α : Type} {l : List α} {i : Nat} {x : α} (h : l[i]? = some x) : l = l.take i ++ x :: l.drop (i + 1) := by
  have hl := (List.getElem?_eq_some_iff.1 h).1
  have e := (List.getElem?_eq_some_iff.1 h).2
  conv => lhs; rw [← List.take_append_drop i l, List.drop_eq_getElem_cons hl, e]
/-- for any run one run of the tree can be left out, so that with it all nodes are linked -/
theorem exchange {N : Nat} {rs : List Rn} {T : List Int} {r : Rn} (h : IsTree N rs T) (hr : r ∈ rs) : ∃ (i : Nat) (z : Int), T[i]? = some z ∧ ∀ j : Nat, j < N → Same (r :: sub rs (T.take i ++ T.drop (i + 1))) 0 j := by
  have hN := (nOk_true h.ok).1
  have hends := h.ends
  have hrt : EndsIn N [r] := (nOk_ends h.ok).sub (fun r' h' => by simp at h'; subst h'; exact hr)
  have hall : ∀ i : Nat, EndsIn N ([r] ++ sub rs (T.take i)) := fun i => hrt.append (hends.sub (fun x hx => by
    obtain ⟨z, hz, rfl⟩ := mem_subOf.1 hx
    exact mem_subOf.2 ⟨z, List.mem_of_mem_take hz, rfl⟩))
  obtain ⟨i, z, hz, he⟩ : ∃ (i : Nat) (z : Int), T[i]? = some z ∧ lab N ([r] ++ sub rs (T.take i)) (runOf rs z).f = lab N ([r] ++ sub rs (T.take i)) (runOf rs z).t := by
    apply Classical.byContradiction
    intro hno
    have hfree : ∀ i : Nat, i ≤ T.length → rk N ([r] ++ sub rs (T.take i)) + i + 1 ≤ N := by
      intro i
      induction i with
      | zero =>
        intro _
        have hl : lab N [] r.f ≠ lab N [] r.t := by
          obtain ⟨j, hj⟩ := List.getElem?_of_mem hr
          obtain ⟨a1, a2, a3, a4, a5, -⟩ := rOk_true ((nOk_true h.ok).2.2.2 j r hj)
          intro e
          exact a5 (((lab_same a1 a2 a3 a4).1 e (fun x => x = r.f) (fun r' h' => by simp at h')).1 rfl).symm
        have := rk_link (rs := []) (r := r) (by simpa using hrt) hl
        rw [rk_nil] at this
        simp [sub] at this ⊢; omega
      | succ i ih =>
        intro hi
        have ih := ih (by omega)
        obtain ⟨z, hz⟩ : ∃ z, T[i]? = some z := ⟨_, List.getElem?_eq_getElem (by omega)⟩
        have e : [r] ++ sub rs (T.take (i + 1)) = ([r] ++ sub rs (T.take i)) ++ [runOf rs z] := by
          rw [take_succ_of hz, sub_append]; simp [sub]
        have hend := hall (i + 1)
        rw [e] at hend ⊢
        have := rk_link hend (fun e => hno ⟨i, z, hz, e⟩)
        omega
    have := hfree T.length (Nat.le_refl _)
    have := rk_pos (N := N) (rs := [r] ++ sub rs (T.take T.length)) (by omega)
    have := h.len
    omega
  refine ⟨i, z, hz, fun j hj => ?_⟩
  refine (whole_same h.whole hj).ends (fun x hx => ?_)
  obtain ⟨y, hy, rfl⟩ := mem_subOf.1 hx
  rw [split_at hz] at hy
  rcases List.mem_append.1 hy with hy | hy
  · exact Same.run (List.mem_cons_of_mem _ (mem_subOf.2 ⟨y, List.mem_append_left _ hy, rfl⟩))
  · rcases List.mem_cons.1 hy with rfl | hy
    · have hm : runOf rs y ∈ rs := h.asc.mem_sub (Nat.le_refl _) _ (mem_subOf.2 ⟨y, List.mem_of_getElem? hz, rfl⟩)
      obtain ⟨a1, a2, a3, a4⟩ := nOk_ends h.ok _ hm
      have := (lab_same a1 a2 a3 a4).1 he
      refine this.ends (EndsOf.of_mem (fun r' h' => ?_))
      rcases List.mem_append.1 h' with h' | h'
      · simp at h'; subst h'; simp
      · obtain ⟨y', hy', rfl⟩ := mem_subOf.1 h'
        exact List.mem_cons_of_mem _ (mem_subOf.2 ⟨y', List.mem_append_left _ hy', rfl⟩)
    · exact Same.run (List.mem_cons_of_mem _ (mem_subOf.2 ⟨y, List.mem_append_right _ hy, rfl⟩))

/-! all ascending lists of d indexes that are at least from and less than m -/
def ext (m : Nat) : Nat → Nat → List (List Int)
  | 0, _ => [[]]
  | d + 1, b => (List.range' b (m - b)).flatMap (fun k => (ext m d (k + 1)).map ((k : Int) :: ·))
theorem mem_ext {m : Nat} : ∀ {d b : Nat} {T : List Int}, T ∈ ext m d b ↔ T.length = d ∧ Asc m T ∧ ∀ z ∈ T, (b : Int) ≤ z := by
  intro d
  induction d with
  | zero =>
    intro b T
    simp only [ext, List.mem_singleton]
    constructor
    · rintro rfl; exact ⟨rfl, ⟨fun z hz => by simp at hz, List.Pairwise.nil⟩, fun z hz => by simp at hz⟩
    · rintro ⟨h, -, -⟩; exact List.eq_nil_of_length_eq_zero h
  | succ d ih =>
    intro b T
    simp only [ext, List.mem_flatMap, List.mem_map, List.mem_range'_1]
    constructor
    · rintro ⟨k, ⟨hk1, hk2⟩, U, hU, rfl⟩
      obtain ⟨h1, h2, h3⟩ := ih.1 hU
      refine ⟨by simp [h1], ⟨fun z hz => ?_, List.pairwise_cons.2 ⟨fun z hz => ?_, h2.up⟩⟩, fun z hz => ?_⟩
      · rcases List.mem_cons.1 hz with rfl | hz
        · omega
        · exact h2.rng z hz
      · have := h3 z hz; omega
      · rcases List.mem_cons.1 hz with rfl | hz
        · omega
        · have := h3 z hz; omega
    · rintro ⟨h1, h2, h3⟩
      cases T with
      | nil => simp at h1
      | cons z U =>
        obtain ⟨z0, z1⟩ := h2.rng z (by simp)
        have zb := h3 z (by simp)
        obtain ⟨k, rfl⟩ : ∃ k : Nat, z = k := ⟨z.toNat, by omega⟩
        have hp := List.pairwise_cons.1 h2.up
        exact ⟨k, by omega, U, ih.2 ⟨by simpa using h1, ⟨fun y hy => h2.rng y (List.mem_cons_of_mem _ hy), hp.2⟩, fun y hy => by have := hp.1 y hy; omega⟩, rfl⟩
theorem nodup_ext {m : Nat} : ∀ (d b : Nat), (ext m d b).Nodup := by
  intro d
  induction d with
  | zero => intro b; simp [ext]
  | succ d ih =>
    intro b
    simp only [ext]
    generalize m - b = n
    induction n generalizing b with
    | zero => simp
    | succ n ihn =>
      rw [List.range'_succ, List.flatMap_cons, List.nodup_append]
      refine ⟨?_, ihn (b + 1), ?_⟩
      · exact List.Pairwise.map _ (fun x y hxy e => hxy (by simpa using e)) (ih (b + 1))
      · intro x hx y hy e
        subst e
        simp only [List.mem_map, List.mem_flatMap, List.mem_range'_1] at hx hy
        obtain ⟨U, -, rfl⟩ := hx
        obtain ⟨k, hk, V, -, e⟩ := hy
        simp at e; omega

noncomputable def isT (n : Int) (rs : List Rn) (T : List Int) : Bool := open Classical in decide (IsTree n rs T)
theorem isT_true {n : Int} {rs : List Rn} {T : List Int} : isT n rs T = true ↔ IsTree n rs T := by unfold isT; simp
theorem isT_false {n : Int} {rs : List Rn} {T : List Int} : isT n rs T = false ↔ ¬ IsTree n rs T := by unfold isT; simp
/-- all trees -/
noncomputable def trees (N : Nat) (rs : List Rn) : List (List Int) := (ext rs.length (N - 1) 0).filter (isT N rs)
theorem mem_trees {N : Nat} {rs : List Rn} {T : List Int} : T ∈ trees N rs ↔ IsTree N rs T := by
  unfold trees
  rw [List.mem_filter, isT_true]
  refine ⟨fun h => h.2, fun h => ⟨mem_ext.2 ⟨by have := h.len; omega, h.asc, fun z hz => by have := h.asc.rng z hz; omega⟩, h⟩⟩
theorem nodup_trees (N : Nat) (rs : List Rn) : (trees N rs).Nodup := (nodup_ext _ _).sublist List.filter_sublist
/-- what the runs of a tree weigh -/
def weigh (rs : List Rn) (T : List Int) : Int := (T.map (fun z => (runOf rs z).g)).foldl (· * ·) 1
noncomputable def many (N : Nat) (rs : List Rn) : Nat := (trees N rs).length
noncomputable def heavy (N : Nat) (rs : List Rn) : Int := ((trees N rs).map (weigh rs)).foldl (· + ·) 0
/-- any list of all trees, none twice, tells the same -/
theorem many_of {N : Nat} {rs : List Rn} {L : List (List Int)} (hn : L.Nodup) (hm : ∀ T, T ∈ L ↔ IsTree N rs T) : L.length = many N rs :=
  ((List.perm_ext_iff_of_nodup hn (nodup_trees N rs)).2 (fun T => (hm T).trans mem_trees.symm)).length_eq
theorem sum_perm {l l' : List Int} (h : l.Perm l') : l.foldl (· + ·) 0 = l'.foldl (· + ·) 0 := by
  refine h.foldl_eq' (fun x _ y _ z => by omega) 0
theorem heavy_of {N : Nat} {rs : List Rn} {L : List (List Int)} (hn : L.Nodup) (hm : ∀ T, T ∈ L ↔ IsTree N rs T) : (L.map (weigh rs)).foldl (· + ·) 0 = heavy N rs :=
  sum_perm (((List.perm_ext_iff_of_nodup hn (nodup_trees N rs)).2 (fun T => (hm T).trans mem_trees.symm)).map _)
theorem many_whole {N : Nat} {rs : List Rn} : 0 < many N rs ↔ nWhole N rs = true := by
  unfold many
  rw [List.length_pos_iff_exists_mem]
  exact ⟨fun ⟨T, hT⟩ => (mem_trees.1 hT).net, fun h => ⟨_, mem_trees.2 (first_tree h)⟩⟩
theorem runOf_take {rs : List Rn} {j : Nat} {z : Int} (h0 : 0 ≤ z) (h1 : z < j) : runOf (rs.take j) z = runOf rs z := by
  unfold runOf; rw [List.getElem?_take, if_pos (by omega)]
theorem sub_take {rs : List Rn} {j : Nat} {T : List Int} (h : Asc j T) : sub (rs.take j) T = sub rs T := by
  unfold sub
  exact List.map_congr_left (fun z hz => by obtain ⟨a, b⟩ := h.rng z hz; exact runOf_take a b)
theorem Asc.mono {n m : Nat} {T : List Int} (h : Asc n T) (hnm : n ≤ m) : Asc m T := ⟨fun z hz => by have := h.rng z hz; omega, h.up⟩
/-- fewer runs have no more trees -/
theorem many_take {N : Nat} {rs : List Rn} (hn : nOk N rs = true) (j : Nat) : many N (rs.take j) ≤ many N rs := by
  refine (nodup_trees N (rs.take j)).length_le_of_subset (fun T hT => ?_)
  have h := mem_trees.1 hT
  have ha : Asc j T := h.asc.mono (by simp; omega)
  refine mem_trees.2 ⟨hn, h.len, h.asc.mono (by simp; omega), ?_⟩
  rw [← sub_take ha]; exact h.whole
/-- a whole net without a loop has one tree -/
theorem many_one {N : Nat} {rs : List Rn} (hw : nWhole N rs = true) (hl : nLoops N rs ≤ 0) : many N rs = 1 := by
  obtain ⟨hn, h1⟩ := whole_iff.1 hw
  rw [nLoops_yes hn] at hl
  have e1 : roots (labs N rs) N = 1 := h1
  have hp := many_whole.2 hw
  have hle : many N rs ≤ [firstT N rs rs.length].length := by
    refine (nodup_trees N rs).length_le_of_subset (fun T hT => ?_)
    have a := mem_trees.1 hT
    have b := first_tree hw
    have hm : rs.length = T.length := by
      have := a.len
      have : T.length ≤ rs.length := by
        have h3 : ∀ (i : Nat) (z : Int), T[i]? = some z → (i : Int) ≤ z := by
          intro i
          induction i with
          | zero => intro z hz; exact (a.asc.rng z (List.mem_of_getElem? hz)).1
          | succ i ih =>
            intro z hz
            have hi := (List.getElem?_eq_some_iff.1 hz).1
            have := ih _ (List.getElem?_eq_getElem (by omega))
            have := a.asc.get (List.getElem?_eq_getElem (by omega : i < T.length)) hz (by omega)
            omega
        by_cases h0 : T.length = 0
        · omega
        · have hz := List.getElem?_eq_getElem (by omega : T.length - 1 < T.length)
          have := h3 _ _ hz
          have := (a.asc.rng _ (List.mem_of_getElem? hz)).2
          omega
      omega
    have full : ∀ U : List Int, Asc U.length U → ∀ (i : Nat) (z : Int), U[i]? = some z → z = i := by
      intro U hU
      have low : ∀ (i : Nat) (z : Int), U[i]? = some z → (i : Int) ≤ z := by
        intro i
        induction i with
        | zero => intro z hz; exact (hU.rng z (List.mem_of_getElem? hz)).1
        | succ i ih =>
          intro z hz
          have hi := (List.getElem?_eq_some_iff.1 hz).1
          have := ih _ (List.getElem?_eq_getElem (by omega))
          have := hU.get (List.getElem?_eq_getElem (by omega : i < U.length)) hz (by omega)
          omega
      have high : ∀ (d i : Nat) (z : Int), i + d + 1 = U.length → U[i]? = some z → z ≤ i := by
        intro d
        induction d with
        | zero => intro i z hi hz; have := (hU.rng z (List.mem_of_getElem? hz)).2; omega
        | succ d ih =>
          intro i z hi hz
          have h2 := List.getElem?_eq_getElem (by omega : i + 1 < U.length)
          have := ih (i + 1) _ (by omega) h2
          have := hU.get hz h2 (by omega)
          omega
      intro i z hz
      have hi := (List.getElem?_eq_some_iff.1 hz).1
      have := low i z hz
      have := high (U.length - i - 1) i z (by omega) hz
      omega
    have hb : (firstT N rs rs.length).length = T.length := by have := a.len; have := b.len; omega
    have fa := full T (by rw [← hm]; exact a.asc)
    have fb := full (firstT N rs rs.length) (by rw [hb, ← hm]; exact b.asc)
    have : T = firstT N rs rs.length := by
      apply List.ext_getElem?
      intro i
      by_cases hi : i < T.length
      · have x := List.getElem?_eq_getElem hi
        have y := List.getElem?_eq_getElem (by omega : i < (firstT N rs rs.length).length)
        rw [x, y, fa i _ x, fb i _ y]
      · rw [List.getElem?_eq_none (by omega), List.getElem?_eq_none (by omega)]
    rw [this]; simp
  simp at hle; omega
end Go.Proofs.Ytimghdffmdcheaa
