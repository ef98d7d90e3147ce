/-
  Trees of a net: how many parts runs leave, what a tree is, the first tree, and that trees exchange runs. No function of the program is named. Trees of a net: that they exchange runs; all lists of so many indexes, and those that are trees; how many there are, and by weight. No function of the program is named. The heights that a tree gives: that there are some, that there are no others, and the rounds that find them. No function of the program is named. Trees of a net: weights turned, a run left out, the runs of a tree moved to the front, one run for another. No function of the program is named.
  The trees of a net by weight are the determinant of its matrix (the matrix-tree theorem). No function of the program is named.
  Trees of a net with and without a run, and of the net in which the ends of the run are one. No function of the program is named.
-/
import Derived.Test.YtoaomjchaihkaaaGreatDoorZh
import Derived.Test.YtoaomjchaihkaaaGreatDoorZb
namespace Go.Proofs.YtoaomjchaihkaaaGreatDoor
set_option linter.unusedVariables false

theorem take_get {α : Type} {l : List α} {j i : Nat} {x : α} (h : (l.take j)[i]? = some x) : l[i]? = some x := by
  rw [List.getElem?_take] at h
  split at h
  · exact h
  · cases h
theorem nOk_take {n : Int} {rs : List Rn} (h : nOk n rs = true) (j : Nat) : nOk n (rs.take j) = true := by
  obtain ⟨h1, h2, h3, h4⟩ := nOk_true h
  exact nOk_of h1 h2 (by simp; omega) (fun i r hi => h4 i r (take_get hi))
/-- each run goes from a node to a node -/
def EndsIn (N : Nat) (rs : List Rn) : Prop := ∀ r ∈ rs, 0 ≤ r.f ∧ r.f < (N : Int) ∧ 0 ≤ r.t ∧ r.t < (N : Int)
theorem nOk_ends {N : Nat} {rs : List Rn} (h : nOk N rs = true) : EndsIn N rs := fun r hr => by
  obtain ⟨i, hi⟩ := List.getElem?_of_mem hr
  obtain ⟨a1, a2, a3, a4, -⟩ := rOk_true ((nOk_true h).2.2.2 i r hi)
  exact ⟨a1, a2, a3, a4⟩
theorem EndsIn.sub {N : Nat} {rs us : List Rn} (h : EndsIn N rs) (hs : ∀ r ∈ us, r ∈ rs) : EndsIn N us := fun r hr => h r (hs r hr)
theorem EndsIn.left {N : Nat} {us vs : List Rn} (h : EndsIn N (us ++ vs)) : EndsIn N us := h.sub (fun r hr => List.mem_append_left _ hr)
theorem EndsIn.append {N : Nat} {us vs : List Rn} (h : EndsIn N us) (h' : EndsIn N vs) : EndsIn N (us ++ vs) := fun r hr => by
  rcases List.mem_append.1 hr with a | a
  · exact h r a
  · exact h' r a
noncomputable def lab (N : Nat) (rs : List Rn) (x : Int) : Int := htAt (labs N rs) x
/-- how many parts -/
noncomputable def rk (N : Nat) (rs : List Rn) : Nat := roots (labs N rs) N
theorem lab_lst {N : Nat} {rs : List Rn} {x : Int} (h0 : 0 ≤ x) (h1 : x < N) : Lst N rs x (lab N rs x) := (labs_is N rs).lst x h0 h1
theorem lab_same {N : Nat} {rs : List Rn} {x y : Int} (h0 : 0 ≤ x) (h1 : x < N) (h2 : 0 ≤ y) (h3 : y < N) : lab N rs x = lab N rs y ↔ Same rs x y :=
  ⟨fun e => (lab_lst h0 h1).same.symm.trans (by rw [e]; exact (lab_lst h2 h3).same), fun s => Lst.of_same h1 h3 (lab_lst h0 h1) (lab_lst h2 h3) s⟩
/-- each run has the ends of one of the other list -/
def EndsOf (rs rs' : List Rn) : Prop := ∀ r ∈ rs, Same rs' r.f r.t
theorem Same.ends {rs rs' : List Rn} (h : EndsOf rs rs') {i j : Int} (hs : Same rs i j) : Same rs' i j := fun g hg => hs g (fun r hr => h r hr g hg)
theorem EndsOf.of_mem {rs rs' : List Rn} (h : ∀ r ∈ rs, r ∈ rs') : EndsOf rs rs' := fun r hr => Same.run (h r hr)
theorem labs_ends {N : Nat} {rs rs' : List Rn} (h : EndsOf rs rs') (h' : EndsOf rs' rs) : labs N rs' = labs N rs := by
  have L := labs_is N rs
  have : IsLab N rs' (labs N rs) := ⟨L.len, fun i h0 h1 => by
    have := L.lst i h0 h1
    exact ⟨this.lo, this.le, this.same.ends h, fun x hx hx' hs => this.min x hx hx' (hs.ends h')⟩⟩
  exact (labs_eq this).symm
theorem roots_all {L : List Int} : ∀ k : Nat, (∀ i : Nat, i < k → htAt L i = i) → roots L k = k
  | 0, _ => rfl
  | k + 1, h => by simp only [roots]; rw [roots_all k (fun i hi => h i (by omega)), if_pos (h k (by omega))]
theorem rk_nil (N : Nat) : rk N [] = N := roots_full
theorem rk_loop {N : Nat} {rs : List Rn} {r : Rn} (hok : EndsIn N (rs ++ [r])) (he : lab N rs r.f = lab N rs r.t) : rk N (rs ++ [r]) = rk N rs := by
  obtain ⟨q0, q1, q2, q3⟩ := hok r (by simp)
  unfold rk; rw [labs_loop q0 q1 q2 q3 he]
theorem rk_link {N : Nat} {rs : List Rn} {r : Rn} (hok : EndsIn N (rs ++ [r])) (he : lab N rs r.f ≠ lab N rs r.t) : rk N rs = rk N (rs ++ [r]) + 1 := roots_link hok he
theorem rk_more {N : Nat} {us : List Rn} : ∀ {vs : List Rn}, EndsIn N (us ++ vs) → rk N us ≤ rk N (us ++ vs) + vs.length ∧ rk N (us ++ vs) ≤ rk N us := by
  intro vs
  induction vs generalizing us with
  | nil => intro _; simp
  | cons r vs ih =>
    intro hok
    have e : us ++ r :: vs = us ++ [r] ++ vs := by simp
    rw [e] at hok ⊢
    obtain ⟨i1, i2⟩ := ih hok
    have hl := hok.left
    have : rk N us ≤ rk N (us ++ [r]) + 1 ∧ rk N (us ++ [r]) ≤ rk N us := by
      by_cases he : lab N us r.f = lab N us r.t
      · have := rk_loop hl he; omega
      · have := rk_link hl he; omega
    simp only [List.length_cons]; omega
theorem rk_ge {N : Nat} {us : List Rn} (h : EndsIn N us) : N ≤ rk N us + us.length := by
  have := (rk_more (us := []) (vs := us) (by simpa using h)).1
  rw [rk_nil] at this; simpa using this
theorem lab_zero {N : Nat} {rs : List Rn} (h : 0 < N) : lab N rs 0 = 0 := by
  have l := lab_lst (rs := rs) (x := 0) (by omega) (by omega : (0 : Int) < N)
  have := l.lo; have := l.le; omega
theorem roots_pos {L : List Int} (h : htAt L 0 = 0) : ∀ k : Nat, 1 ≤ roots L (k + 1)
  | 0 => by simp only [roots]; rw [if_pos (by simpa using h)]; omega
  | k + 1 => by have := roots_pos h k; rw [roots]; omega
theorem roots_two {L : List Int} (h : htAt L 0 = 0) {c : Nat} (hc : 0 < c) (hr : htAt L c = c) : ∀ k : Nat, c < k → 2 ≤ roots L k
  | 0, h => by omega
  | k + 1, hk => by
    by_cases e : c = k
    · subst e
      obtain ⟨d, rfl⟩ : ∃ d, c = d + 1 := ⟨c - 1, by omega⟩
      have := roots_pos h d
      rw [roots, if_pos hr]; omega
    · have := roots_two h hc hr k (by omega)
      rw [roots]; omega
theorem rk_pos {N : Nat} {rs : List Rn} (h : 0 < N) : 1 ≤ rk N rs := by
  obtain ⟨M, rfl⟩ : ∃ M, N = M + 1 := ⟨N - 1, by omega⟩
  exact roots_pos (lab_zero h) M
/-- all nodes are linked exactly if there is one part -/
theorem rk_one {N : Nat} {rs : List Rn} (h : 0 < N) : rk N rs = 1 ↔ ∀ i : Nat, i < N → Same rs 0 i := by
  constructor
  · intro h1 i hi
    have l := lab_lst (rs := rs) (x := (i : Int)) (by omega) (by omega : (i : Int) < N)
    have e : lab N rs i = 0 := by
      apply Classical.byContradiction
      intro hne
      have hlo := l.lo
      have hle := l.le
      obtain ⟨c, hc⟩ : ∃ c : Nat, lab N rs i = c := ⟨(lab N rs i).toNat, by omega⟩
      have lc := lab_lst (rs := rs) (x := (c : Int)) (by omega) (by omega : (c : Int) < N)
      have : lab N rs c = c := by
        have := Lst.of_same (by omega) (by omega) lc l (by rw [← hc]; exact l.same)
        omega
      have := roots_two (L := labs N rs) (lab_zero h) (by omega : 0 < c) this N (by omega)
      unfold rk at h1; omega
    have := l.same
    rwa [e] at this
  · intro hs
    obtain ⟨M, rfl⟩ : ∃ M, N = M + 1 := ⟨N - 1, by omega⟩
    refine roots_zero M (fun i hi => ?_)
    have l := lab_lst (rs := rs) (x := (i : Int)) (by omega) (by omega : (i : Int) < ((M + 1 : Nat) : Int))
    have := l.min 0 (by omega) (by omega) (hs i hi)
    have := l.lo
    show lab _ rs i = 0
    omega
theorem whole_iff {N : Nat} {rs : List Rn} : nWhole N rs = true ↔ nOk N rs = true ∧ rk N rs = 1 := by
  constructor
  · intro h
    have hn : nOk N rs = true := by unfold nWhole at h; simp at h; exact h.1
    have hN := (nOk_true hn).1
    refine ⟨hn, ?_⟩
    obtain ⟨M, rfl⟩ : ∃ M, N = M + 1 := ⟨N - 1, by omega⟩
    have hz : (labs (M + 1 : Nat) rs).all (fun z => decide (z = 0)) = true := by unfold nWhole at h; rw [hn] at h; simpa using h
    refine roots_zero M (fun i hi => ?_)
    have e := htAt_get (L := labs (M + 1 : Nat) rs) (x := (i : Int)) (by omega) (by rw [labs_len]; omega)
    rw [List.all_eq_true] at hz
    simpa using hz _ (List.mem_of_getElem? e)
  · rintro ⟨hn, h1⟩
    have hN := (nOk_true hn).1
    have hs := (rk_one (by omega)).1 h1
    unfold nWhole
    rw [hn, Bool.true_and, List.all_eq_true]
    intro z hz
    obtain ⟨i, hi⟩ := List.getElem?_of_mem hz
    have hl : i < N := by have := (List.getElem?_eq_some_iff.1 hi).1; rw [labs_len] at this; exact this
    have l := lab_lst (rs := rs) (x := (i : Int)) (by omega) (by omega : (i : Int) < N)
    have := l.min 0 (by omega) (by omega) (hs i hl)
    have := l.lo
    have e : lab N rs i = z := by unfold lab; exact htAt_nat hi
    simp; omega
theorem whole_same {N : Nat} {rs : List Rn} (h : nWhole N rs = true) {i : Nat} (hi : i < N) : Same rs 0 i := (rk_one (by omega)).1 (whole_iff.1 h).2 i hi
theorem whole_of {N : Nat} {rs : List Rn} (hn : nOk N rs = true) (h : ∀ i : Nat, i < N → Same rs 0 i) : nWhole N rs = true := by
  have := (nOk_true hn).1
  exact whole_iff.2 ⟨hn, (rk_one (by omega)).2 h⟩
theorem whole_mono {N : Nat} {us rs : List Rn} (hn : nOk N rs = true) (hs : EndsOf us rs) (h : nWhole N us = true) : nWhole N rs = true :=
  whole_of hn (fun i hi => (whole_same h hi).ends hs)

/-! runs without a loop -/
def Free (N : Nat) (us : List Rn) : Prop := rk N us + us.length = N
theorem Free.left {N : Nat} {us vs : List Rn} (hok : EndsIn N (us ++ vs)) (h : Free N (us ++ vs)) : Free N us := by
  have := rk_ge hok.left
  have := rk_more hok
  unfold Free at *; simp at h; omega
theorem Free.ne {N : Nat} {us : List Rn} {r : Rn} (hok : EndsIn N (us ++ [r])) (h : Free N (us ++ [r])) : lab N us r.f ≠ lab N us r.t := fun e => by
  have := rk_loop hok e
  have := rk_ge hok.left
  unfold Free at h; simp at h; omega
theorem Free.snoc {N : Nat} {us : List Rn} {r : Rn} (hok : EndsIn N (us ++ [r])) (h : Free N us) (hne : lab N us r.f ≠ lab N us r.t) : Free N (us ++ [r]) := by
  have := rk_link hok hne
  unfold Free at *; simp; omega
theorem Free.nil (N : Nat) : Free N [] := by unfold Free; rw [rk_nil]; rfl
/-- runs without a loop fit some heights -/
theorem snoc_of {α : Type} {l : List α} {n : Nat} (h : l.length = n + 1) : ∃ l' r, l = l' ++ [r] ∧ l'.length = n :=
  ⟨l.dropLast, l.getLast (by intro e; simp [e] at h), (List.dropLast_concat_getLast _).symm, by simp [h]⟩
theorem Free.pot {N : Nat} : ∀ (n : Nat) {us : List Rn}, us.length = n → EndsIn N us → Free N us → ∃ P : Int → Int, ∀ r ∈ us, P r.t - P r.f = r.s := by
  intro n
  induction n with
  | zero => intro us hl _ _; exact ⟨fun _ => 0, fun r hr => by rw [List.eq_nil_of_length_eq_zero hl] at hr; simp at hr⟩
  | succ n ih =>
    intro us' hl hok hf
    obtain ⟨us, r, rfl, hl'⟩ := snoc_of hl
    have ih := @ih us hl'
    obtain ⟨P, hP⟩ := ih hok.left (hf.left hok)
    have hne := hf.ne hok
    obtain ⟨q0, q1, q2, q3⟩ := hok r (by simp)
    refine ⟨fun x => P x + if lab N us x = lab N us r.t then r.s - (P r.t - P r.f) else 0, fun r' hr' => ?_⟩
    rcases List.mem_append.1 hr' with h' | h'
    · obtain ⟨a0, a1, a2, a3⟩ := hok r' hr'
      have e : lab N us r'.f = lab N us r'.t := (lab_same a0 a1 a2 a3).2 (Same.run h')
      have := hP r' h'
      simp only [e]; omega
    · simp at h'; subst h'
      simp only [if_neg hne, if_true]; omega

/-! trees -/
structure IsTree (n : Int) (rs : List Rn) (T : List Int) : Prop where
  ok : nOk n rs = true
  len : (T.length : Int) + 1 = n
  asc : Asc rs.length T
  whole : nWhole n (sub rs T) = true
theorem sub_append (rs : List Rn) (T U : List Int) : sub rs (T ++ U) = sub rs T ++ sub rs U := by simp [sub]
theorem Asc.get {n : Nat} {T : List Int} (h : Asc n T) {i j : Nat} {x y : Int} (hi : T[i]? = some x) (hj : T[j]? = some y) (hlt : i < j) : x < y := by
  have hp := h.up
  rw [List.pairwise_iff_getElem] at hp
  obtain ⟨hl1, hx⟩ := List.getElem?_eq_some_iff.1 hi
  obtain ⟨hl2, hy⟩ := List.getElem?_eq_some_iff.1 hj
  have := hp i j hl1 hl2 hlt
  rw [hx, hy] at this; exact this
theorem Asc.sub_ends {N : Nat} {rs : List Rn} {T : List Int} (h : Asc rs.length T) (hn : nOk N rs = true) : EndsIn N (sub rs T) := (nOk_ends hn).sub (h.mem_sub (Nat.le_refl _))
section
variable {N : Nat} {rs : List Rn} {T : List Int}
theorem IsTree.rk (h : IsTree N rs T) : Free N (sub rs T) := by
  have := (whole_iff.1 h.whole).2
  have := h.len
  unfold Free; rw [sub_len]; omega
theorem IsTree.ends (h : IsTree N rs T) : EndsIn N (sub rs T) := h.asc.sub_ends h.ok
theorem IsTree.net (h : IsTree N rs T) : nWhole N rs = true := whole_mono h.ok (EndsOf.of_mem (h.asc.mem_sub (Nat.le_refl _))) h.whole
theorem First.tree (h : First N rs rs.length T) (hw : nWhole N rs = true) : IsTree N rs T := by
  obtain ⟨h1, h2⟩ := h.whole hw
  exact ⟨(whole_iff.1 hw).1, by omega, h.asc, h2⟩
end
/-! the first tree -/
noncomputable def firstT (N : Nat) (rs : List Rn) : Nat → List Int
  | 0 => []
  | k + 1 => match rs[k]? with
    | none => firstT N rs k
    | some r => if lab N (sub rs (firstT N rs k)) r.f = lab N (sub rs (firstT N rs k)) r.t then firstT N rs k else firstT N rs k ++ [(k : Int)]
theorem firstT_skip {N : Nat} {rs : List Rn} {k : Nat} {r : Rn} (hr : rs[k]? = some r) (he : lab N (sub rs (firstT N rs k)) r.f = lab N (sub rs (firstT N rs k)) r.t) : firstT N rs (k + 1) = firstT N rs k := by
  rw [firstT, hr]; simp only; rw [if_pos he]
theorem firstT_take {N : Nat} {rs : List Rn} {k : Nat} {r : Rn} (hr : rs[k]? = some r) (he : lab N (sub rs (firstT N rs k)) r.f ≠ lab N (sub rs (firstT N rs k)) r.t) : firstT N rs (k + 1) = firstT N rs k ++ [(k : Int)] := by
  rw [firstT, hr]; simp only; rw [if_neg he]
theorem firstT_is {N : Nat} {rs : List Rn} (hok : EndsIn N rs) : ∀ k : Nat, k ≤ rs.length → First N rs k (firstT N rs k)
  | 0, _ => First.start N rs
  | k + 1, h => by
    have ih := firstT_is hok k (by omega)
    have hr : rs[k]? = some rs[k] := List.getElem?_eq_getElem (by omega)
    by_cases he : lab N (sub rs (firstT N rs k)) rs[k].f = lab N (sub rs (firstT N rs k)) rs[k].t
    · rw [firstT_skip hr he]; exact ih.skip hok hr he
    · rw [firstT_take hr he]; exact ih.take hok hr he
theorem first_tree {N : Nat} {rs : List Rn} (hw : nWhole N rs = true) : IsTree N rs (firstT N rs rs.length) := (firstT_is (nOk_ends (whole_iff.1 hw).1) _ (Nat.le_refl _)).tree hw
/-- what comes later stands behind -/
theorem firstT_more {N : Nat} {rs : List Rn} (k : Nat) : ∀ d : Nat, ∃ U, firstT N rs (k + d) = firstT N rs k ++ U ∧ ∀ z ∈ U, (k : Int) ≤ z
  | 0 => ⟨[], by simp, fun z hz => by simp at hz⟩
  | d + 1 => by
    obtain ⟨U, e, h⟩ := firstT_more (N := N) (rs := rs) k d
    cases hr : rs[k + d]? with
    | none => exact ⟨U, by rw [← Nat.add_assoc, firstT, hr]; exact e, h⟩
    | some r =>
      by_cases he : lab N (sub rs (firstT N rs (k + d))) r.f = lab N (sub rs (firstT N rs (k + d))) r.t
      · exact ⟨U, by rw [← Nat.add_assoc, firstT_skip hr he]; exact e, h⟩
      · refine ⟨U ++ [((k + d : Nat) : Int)], by rw [← Nat.add_assoc, firstT_take hr he, e, List.append_assoc], fun z hz => ?_⟩
        rcases List.mem_append.1 hz with h' | h'
        · exact h z h'
        · simp at h'; subst h'; omega
/-- no run of the first tree can be replaced by an earlier one that stands behind the one ahead of it -/
theorem first_least {N : Nat} {rs : List Rn} (hn : nOk N rs = true) {i : Nat} {z k : Int} (hz : (firstT N rs rs.length)[i]? = some z) (h0 : 0 ≤ k) (hk : k < z) (hb : ∀ y, (firstT N rs rs.length)[i - 1]? = some y → 0 < i → y < k) :
    ¬ IsTree N rs ((firstT N rs rs.length).take i ++ k :: (firstT N rs rs.length).drop (i + 1)) := by
  intro ht
  have hok := nOk_ends hn
  have hF := firstT_is hok rs.length (Nat.le_refl _)
  obtain ⟨z0, z1⟩ := hF.asc.rng z (List.mem_of_getElem? hz)
  obtain ⟨q, rfl⟩ : ∃ q : Nat, k = (q : Int) := ⟨k.toNat, by omega⟩
  obtain ⟨U, e, hU⟩ := firstT_more (N := N) (rs := rs) q (rs.length - q)
  rw [show q + (rs.length - q) = rs.length by omega] at e
  have hlow : ∀ y ∈ firstT N rs q, y < (q : Int) := fun y hy => ((firstT_is hok q (by omega)).asc.rng y hy).2
  have hi1 : i < (firstT N rs rs.length).length := (List.getElem?_eq_some_iff.1 hz).1
  have hlen : (firstT N rs q).length = i := by
    rcases Nat.lt_trichotomy (firstT N rs q).length i with h | h | h
    · exfalso
      obtain ⟨y, hy⟩ : ∃ y, (firstT N rs rs.length)[i - 1]? = some y := ⟨_, List.getElem?_eq_getElem (by omega)⟩
      have hyk := hb y hy (by omega)
      rw [e, List.getElem?_append_right (by omega)] at hy
      have := hU y (List.mem_of_getElem? hy)
      omega
    · exact h
    · exfalso
      rw [e, List.getElem?_append_left h] at hz
      have := hlow z (List.mem_of_getElem? hz)
      omega
  have htake : (firstT N rs rs.length).take i = firstT N rs q := by rw [e, ← hlen]; simp
  obtain ⟨r, hr⟩ : ∃ r, rs[q]? = some r := ⟨_, List.getElem?_eq_getElem (by omega)⟩
  have hmem : ¬ (q : Int) ∈ firstT N rs rs.length := fun hm => by
    obtain ⟨j, hj⟩ := List.getElem?_of_mem hm
    rcases Nat.lt_trichotomy j i with h | h | h
    · rw [e, List.getElem?_append_left (by omega)] at hj
      have := hlow _ (List.mem_of_getElem? hj); omega
    · subst h; rw [hz] at hj; cases hj; omega
    · have := hF.asc.get hz hj h; omega
  have hskip : lab N (sub rs (firstT N rs q)) r.f = lab N (sub rs (firstT N rs q)) r.t := by
    apply Classical.byContradiction
    intro hne
    obtain ⟨V, e2, -⟩ := firstT_more (N := N) (rs := rs) (q + 1) (rs.length - (q + 1))
    rw [show q + 1 + (rs.length - (q + 1)) = rs.length by omega, firstT_take hr hne] at e2
    exact hmem (by rw [e2]; simp)
  have hfree := ht.rk
  have hends := ht.ends
  rw [htake] at hfree hends
  have e3 : sub rs (firstT N rs q ++ (q : Int) :: (firstT N rs rs.length).drop (i + 1)) = (sub rs (firstT N rs q) ++ [r]) ++ sub rs ((firstT N rs rs.length).drop (i + 1)) := by
    rw [← sub_snoc rs _ q hr, ← sub_append]; simp
  rw [e3] at hfree hends
  exact (hfree.left hends).ne hends.left hskip
end Go.Proofs.YtoaomjchaihkaaaGreatDoor
namespace Go.Proofs.YtoaomjchaihkaaaGreatDoor
set_option linter.unusedVariables false

theorem sub_get {rs : List Rn} {T : List Int} {i : Nat} {z : Int} (h : T[i]? = some z) : (sub rs T)[i]? = some (runOf rs z) := by unfold sub; rw [List.getElem?_map, h]; rfl
theorem mem_subOf {rs : List Rn} {T : List Int} {r : Rn} : r ∈ sub rs T ↔ ∃ z ∈ T, runOf rs z = r := by unfold sub; simp
theorem take_succ_of {α : Type} {l : List α} {i : Nat} {x : α} (h : l[i]? = some x) : l.take (i + 1) = l.take i ++ [x] := by rw [List.take_add_one, h]; rfl
theorem split_at {α : Type} {l : List α} {i : Nat} {x : α} (h : l[i]? = some x) : l = l.take i ++ x :: l.drop (i + 1) := by
  have hl := (List.getElem?_eq_some_iff.1 h).1
  have e := (List.getElem?_eq_some_iff.1 h).2
  conv => lhs; rw [← List.take_append_drop i l, List.drop_eq_getElem_cons hl, e]
/-- for any run one run of the tree can be left out, so that with it all nodes are linked -/
theorem exchange {N : Nat} {rs : List Rn} {T : List Int} {r : Rn} (h : IsTree N rs T) (hr : r ∈ rs) : ∃ (i : Nat) (z : Int), T[i]? = some z ∧ ∀ j : Nat, j < N → Same (r :: sub rs (T.take i ++ T.drop (i + 1))) 0 j := by
  have hN := (nOk_true h.ok).1
  have hends := h.ends
  have hrt : EndsIn N [r] := (nOk_ends h.ok).sub (fun r' h' => by simp at h'; subst h'; exact hr)
  have hall : ∀ i : Nat, EndsIn N ([r] ++ sub rs (T.take i)) := fun i => hrt.append (hends.sub (fun x hx => by
    obtain ⟨z, hz, rfl⟩ := mem_subOf.1 hx
    exact mem_subOf.2 ⟨z, List.mem_of_mem_take hz, rfl⟩))
  obtain ⟨i, z, hz, he⟩ : ∃ (i : Nat) (z : Int), T[i]? = some z ∧ lab N ([r] ++ sub rs (T.take i)) (runOf rs z).f = lab N ([r] ++ sub rs (T.take i)) (runOf rs z).t := by
    apply Classical.byContradiction
    intro hno
    have hfree : ∀ i : Nat, i ≤ T.length → rk N ([r] ++ sub rs (T.take i)) + i + 1 ≤ N := by
      intro i
      induction i with
      | zero =>
        intro _
        have hl : lab N [] r.f ≠ lab N [] r.t := by
          obtain ⟨j, hj⟩ := List.getElem?_of_mem hr
          obtain ⟨a1, a2, a3, a4, a5, -⟩ := rOk_true ((nOk_true h.ok).2.2.2 j r hj)
          intro e
          exact a5 (((lab_same a1 a2 a3 a4).1 e (fun x => x = r.f) (fun r' h' => by simp at h')).1 rfl).symm
        have := rk_link (rs := []) (r := r) (by simpa using hrt) hl
        rw [rk_nil] at this
        simp [sub] at this ⊢; omega
      | succ i ih =>
        intro hi
        have ih := ih (by omega)
        obtain ⟨z, hz⟩ : ∃ z, T[i]? = some z := ⟨_, List.getElem?_eq_getElem (by omega)⟩
        have e : [r] ++ sub rs (T.take (i + 1)) = ([r] ++ sub rs (T.take i)) ++ [runOf rs z] := by
          rw [take_succ_of hz, sub_append]; simp [sub]
        have hend := hall (i + 1)
        rw [e] at hend ⊢
        have := rk_link hend (fun e => hno ⟨i, z, hz, e⟩)
        omega
    have := hfree T.length (Nat.le_refl _)
    have := rk_pos (N := N) (rs := [r] ++ sub rs (T.take T.length)) (by omega)
    have := h.len
    omega
  refine ⟨i, z, hz, fun j hj => ?_⟩
  refine (whole_same h.whole hj).ends (fun x hx => ?_)
  obtain ⟨y, hy, rfl⟩ := mem_subOf.1 hx
  rw [split_at hz] at hy
  rcases List.mem_append.1 hy with hy | hy
  · exact Same.run (List.mem_cons_of_mem _ (mem_subOf.2 ⟨y, List.mem_append_left _ hy, rfl⟩))
  · rcases List.mem_cons.1 hy with rfl | hy
    · have hm : runOf rs y ∈ rs := h.asc.mem_sub (Nat.le_refl _) _ (mem_subOf.2 ⟨y, List.mem_of_getElem? hz, rfl⟩)
      obtain ⟨a1, a2, a3, a4⟩ := nOk_ends h.ok _ hm
      have := (lab_same a1 a2 a3 a4).1 he
      refine this.ends (EndsOf.of_mem (fun r' h' => ?_))
      rcases List.mem_append.1 h' with h' | h'
      · simp at h'; subst h'; simp
      · obtain ⟨y', hy', rfl⟩ := mem_subOf.1 h'
        exact List.mem_cons_of_mem _ (mem_subOf.2 ⟨y', List.mem_append_left _ hy', rfl⟩)
    · exact Same.run (List.mem_cons_of_mem _ (mem_subOf.2 ⟨y, List.mem_append_right _ hy, rfl⟩))

/-! all ascending lists of d indexes that are at least from and less than m -/
def ext (m : Nat) : Nat → Nat → List (List Int)
  | 0, _ => [[]]
  | d + 1, b => (List.range' b (m - b)).flatMap (fun k => (ext m d (k + 1)).map ((k : Int) :: ·))
theorem mem_ext {m : Nat} : ∀ {d b : Nat} {T : List Int}, T ∈ ext m d b ↔ T.length = d ∧ Asc m T ∧ ∀ z ∈ T, (b : Int) ≤ z := by
  intro d
  induction d with
  | zero =>
    intro b T
    simp only [ext, List.mem_singleton]
    constructor
    · rintro rfl; exact ⟨rfl, ⟨fun z hz => by simp at hz, List.Pairwise.nil⟩, fun z hz => by simp at hz⟩
    · rintro ⟨h, -, -⟩; exact List.eq_nil_of_length_eq_zero h
  | succ d ih =>
    intro b T
    simp only [ext, List.mem_flatMap, List.mem_map, List.mem_range'_1]
    constructor
    · rintro ⟨k, ⟨hk1, hk2⟩, U, hU, rfl⟩
      obtain ⟨h1, h2, h3⟩ := ih.1 hU
      refine ⟨by simp [h1], ⟨fun z hz => ?_, List.pairwise_cons.2 ⟨fun z hz => ?_, h2.up⟩⟩, fun z hz => ?_⟩
      · rcases List.mem_cons.1 hz with rfl | hz
        · omega
        · exact h2.rng z hz
      · have := h3 z hz; omega
      · rcases List.mem_cons.1 hz with rfl | hz
        · omega
        · have := h3 z hz; omega
    · rintro ⟨h1, h2, h3⟩
      cases T with
      | nil => simp at h1
      | cons z U =>
        obtain ⟨z0, z1⟩ := h2.rng z (by simp)
        have zb := h3 z (by simp)
        obtain ⟨k, rfl⟩ : ∃ k : Nat, z = k := ⟨z.toNat, by omega⟩
        have hp := List.pairwise_cons.1 h2.up
        exact ⟨k, by omega, U, ih.2 ⟨by simpa using h1, ⟨fun y hy => h2.rng y (List.mem_cons_of_mem _ hy), hp.2⟩, fun y hy => by have := hp.1 y hy; omega⟩, rfl⟩
theorem nodup_ext {m : Nat} : ∀ (d b : Nat), (ext m d b).Nodup := by
  intro d
  induction d with
  | zero => intro b; simp [ext]
  | succ d ih =>
    intro b
    simp only [ext]
    generalize m - b = n
    induction n generalizing b with
    | zero => simp
    | succ n ihn =>
      rw [List.range'_succ, List.flatMap_cons, List.nodup_append]
      refine ⟨?_, ihn (b + 1), ?_⟩
      · exact List.Pairwise.map _ (fun x y hxy e => hxy (by simpa using e)) (ih (b + 1))
      · intro x hx y hy e
        subst e
        simp only [List.mem_map, List.mem_flatMap, List.mem_range'_1] at hx hy
        obtain ⟨U, -, rfl⟩ := hx
        obtain ⟨k, hk, V, -, e⟩ := hy
        simp at e; omega

noncomputable def isT (n : Int) (rs : List Rn) (T : List Int) : Bool := open Classical in decide (IsTree n rs T)
theorem isT_true {n : Int} {rs : List Rn} {T : List Int} : isT n rs T = true ↔ IsTree n rs T := by unfold isT; simp
theorem isT_false {n : Int} {rs : List Rn} {T : List Int} : isT n rs T = false ↔ ¬ IsTree n rs T := by unfold isT; simp
/-- all trees -/
noncomputable def trees (N : Nat) (rs : List Rn) : List (List Int) := (ext rs.length (N - 1) 0).filter (isT N rs)
theorem mem_trees {N : Nat} {rs : List Rn} {T : List Int} : T ∈ trees N rs ↔ IsTree N rs T := by
  unfold trees
  rw [List.mem_filter, isT_true]
  refine ⟨fun h => h.2, fun h => ⟨mem_ext.2 ⟨by have := h.len; omega, h.asc, fun z hz => by have := h.asc.rng z hz; omega⟩, h⟩⟩
theorem nodup_trees (N : Nat) (rs : List Rn) : (trees N rs).Nodup := (nodup_ext _ _).sublist List.filter_sublist
/-- what the runs of a tree weigh -/
def weigh (rs : List Rn) (T : List Int) : Int := (T.map (fun z => (runOf rs z).g)).foldl (· * ·) 1
noncomputable def many (N : Nat) (rs : List Rn) : Nat := (trees N rs).length
noncomputable def heavy (N : Nat) (rs : List Rn) : Int := ((trees N rs).map (weigh rs)).foldl (· + ·) 0
/-- any list of all trees, none twice, tells the same -/
theorem many_of {N : Nat} {rs : List Rn} {L : List (List Int)} (hn : L.Nodup) (hm : ∀ T, T ∈ L ↔ IsTree N rs T) : L.length = many N rs :=
  ((List.perm_ext_iff_of_nodup hn (nodup_trees N rs)).2 (fun T => (hm T).trans mem_trees.symm)).length_eq
theorem sum_perm {l l' : List Int} (h : l.Perm l') : l.foldl (· + ·) 0 = l'.foldl (· + ·) 0 := by
  refine h.foldl_eq' (fun x _ y _ z => by omega) 0
theorem heavy_of {N : Nat} {rs : List Rn} {L : List (List Int)} (hn : L.Nodup) (hm : ∀ T, T ∈ L ↔ IsTree N rs T) : (L.map (weigh rs)).foldl (· + ·) 0 = heavy N rs :=
  sum_perm (((List.perm_ext_iff_of_nodup hn (nodup_trees N rs)).2 (fun T => (hm T).trans mem_trees.symm)).map _)
theorem many_whole {N : Nat} {rs : List Rn} : 0 < many N rs ↔ nWhole N rs = true := by
  unfold many
  rw [List.length_pos_iff_exists_mem]
  exact ⟨fun ⟨T, hT⟩ => (mem_trees.1 hT).net, fun h => ⟨_, mem_trees.2 (first_tree h)⟩⟩
theorem runOf_take {rs : List Rn} {j : Nat} {z : Int} (h0 : 0 ≤ z) (h1 : z < j) : runOf (rs.take j) z = runOf rs z := by
  unfold runOf; rw [List.getElem?_take, if_pos (by omega)]
theorem sub_take {rs : List Rn} {j : Nat} {T : List Int} (h : Asc j T) : sub (rs.take j) T = sub rs T := by
  unfold sub
  exact List.map_congr_left (fun z hz => by obtain ⟨a, b⟩ := h.rng z hz; exact runOf_take a b)
theorem Asc.mono {n m : Nat} {T : List Int} (h : Asc n T) (hnm : n ≤ m) : Asc m T := ⟨fun z hz => by have := h.rng z hz; omega, h.up⟩
/-- fewer runs have no more trees -/
theorem many_take {N : Nat} {rs : List Rn} (hn : nOk N rs = true) (j : Nat) : many N (rs.take j) ≤ many N rs := by
  refine (nodup_trees N (rs.take j)).length_le_of_subset (fun T hT => ?_)
  have h := mem_trees.1 hT
  have ha : Asc j T := h.asc.mono (by simp; omega)
  refine mem_trees.2 ⟨hn, h.len, h.asc.mono (by simp; omega), ?_⟩
  rw [← sub_take ha]; exact h.whole
/-- a whole net without a loop has one tree -/
theorem many_one {N : Nat} {rs : List Rn} (hw : nWhole N rs = true) (hl : nLoops N rs ≤ 0) : many N rs = 1 := by
  obtain ⟨hn, h1⟩ := whole_iff.1 hw
  rw [nLoops_yes hn] at hl
  have e1 : roots (labs N rs) N = 1 := h1
  have hp := many_whole.2 hw
  have hle : many N rs ≤ [firstT N rs rs.length].length := by
    refine (nodup_trees N rs).length_le_of_subset (fun T hT => ?_)
    have a := mem_trees.1 hT
    have b := first_tree hw
    have hm : rs.length = T.length := by
      have := a.len
      have : T.length ≤ rs.length := by
        have h3 : ∀ (i : Nat) (z : Int), T[i]? = some z → (i : Int) ≤ z := by
          intro i
          induction i with
          | zero => intro z hz; exact (a.asc.rng z (List.mem_of_getElem? hz)).1
          | succ i ih =>
            intro z hz
            have hi := (List.getElem?_eq_some_iff.1 hz).1
            have := ih _ (List.getElem?_eq_getElem (by omega))
            have := a.asc.get (List.getElem?_eq_getElem (by omega : i < T.length)) hz (by omega)
            omega
        by_cases h0 : T.length = 0
        · omega
        · have hz := List.getElem?_eq_getElem (by omega : T.length - 1 < T.length)
          have := h3 _ _ hz
          have := (a.asc.rng _ (List.mem_of_getElem? hz)).2
          omega
      omega
    have full : ∀ U : List Int, Asc U.length U → ∀ (i : Nat) (z : Int), U[i]? = some z → z = i := by
      intro U hU
      have low : ∀ (i : Nat) (z : Int), U[i]? = some z → (i : Int) ≤ z := by
        intro i
        induction i with
        | zero => intro z hz; exact (hU.rng z (List.mem_of_getElem? hz)).1
        | succ i ih =>
          intro z hz
          have hi := (List.getElem?_eq_some_iff.1 hz).1
          have := ih _ (List.getElem?_eq_getElem (by omega))
          have := hU.get (List.getElem?_eq_getElem (by omega : i < U.length)) hz (by omega)
          omega
      have high : ∀ (d i : Nat) (z : Int), i + d + 1 = U.length → U[i]? = some z → z ≤ i := by
        intro d
        induction d with
        | zero => intro i z hi hz; have := (hU.rng z (List.mem_of_getElem? hz)).2; omega
        | succ d ih =>
          intro i z hi hz
          have h2 := List.getElem?_eq_getElem (by omega : i + 1 < U.length)
          have := ih (i + 1) _ (by omega) h2
          have := hU.get hz h2 (by omega)
          omega
      intro i z hz
      have hi := (List.getElem?_eq_some_iff.1 hz).1
      have := low i z hz
      have := high (U.length - i - 1) i z (by omega) hz
      omega
    have hb : (firstT N rs rs.length).length = T.length := by have := a.len; have := b.len; omega
    have fa := full T (by rw [← hm]; exact a.asc)
    have fb := full (firstT N rs rs.length) (by rw [hb, ← hm]; exact b.asc)
    have : T = firstT N rs rs.length := by
      apply List.ext_getElem?
      intro i
      by_cases hi : i < T.length
      · have x := List.getElem?_eq_getElem hi
        have y := List.getElem?_eq_getElem (by omega : i < (firstT N rs rs.length).length)
        rw [x, y, fa i _ x, fb i _ y]
      · rw [List.getElem?_eq_none (by omega), List.getElem?_eq_none (by omega)]
    rw [this]; simp
  simp at hle; omega
end Go.Proofs.YtoaomjchaihkaaaGreatDoor
namespace Go.Proofs.YtoaomjchaihkaaaGreatDoor
set_option linter.unusedVariables false

/-- the heights that runs give: 0 at the node 0, and each run's rise -/
structure IsHt (N : Nat) (us : List Rn) (L : List Int) : Prop where
  len : L.length = N
  zero : htAt L 0 = 0
  fit : ∀ r ∈ us, htAt L r.t - htAt L r.f = r.s
theorem IsHt.unique {N : Nat} {us : List Rn} {L L' : List Int} (hw : ∀ i : Nat, i < N → Same us 0 i) (h : IsHt N us L) (h' : IsHt N us L') : L = L' := by
  apply List.ext_getElem?
  intro i
  by_cases hi : i < N
  · have := (hw i hi (fun x => htAt L x = htAt L' x) (fun r hr => by
      have := h.fit r hr; have := h'.fit r hr; constructor <;> intro _ <;> omega)).1 (by rw [h.zero, h'.zero])
    have a := htAt_get (L := L) (x := (i : Int)) (by omega) (by have := h.len; omega)
    have b := htAt_get (L := L') (x := (i : Int)) (by omega) (by have := h'.len; omega)
    rw [Int.toNat_natCast] at a b
    rw [a, b, this]
  · rw [List.getElem?_eq_none (by have := h.len; omega), List.getElem?_eq_none (by have := h'.len; omega)]
/-- a potential with 0 at the node 0 -/
theorem pot_zero {N : Nat} {us : List Rn} (hok : EndsIn N us) (hf : Free N us) : ∃ P : Int → Int, P 0 = 0 ∧ ∀ r ∈ us, P r.t - P r.f = r.s := by
  obtain ⟨P, hP⟩ := Free.pot _ rfl hok hf
  exact ⟨fun x => P x - P 0, by simp, fun r hr => by have := hP r hr; simp; omega⟩
theorem count_set_true {ks : List Bool} {i : Nat} (h : ks[i]? = some false) : (ks.set i true).count true = ks.count true + 1 := by
  have hi := (List.getElem?_eq_some_iff.1 h).1
  have he := (List.getElem?_eq_some_iff.1 h).2
  rw [List.count_set hi, he]; simp
theorem count_all {ks : List Bool} (h : ks.length ≤ ks.count true) {i : Nat} {b : Bool} (hi : ks[i]? = some b) : b = true := by
  have e : ks.count true = ks.length := Nat.le_antisymm List.count_le_length h
  exact (List.count_eq_length.1 e b (List.mem_of_getElem? hi)).symm
/-- how far the rounds have come: t rounds and k runs of the next one -/
structure Known (N : Nat) (us : List Rn) (P : Int → Int) (t k : Nat) (ks : List Bool) (L : List Int) : Prop where
  len : ks.length = N
  lenL : L.length = N
  zero : ks[0]? = some true
  pot : ∀ i : Nat, ks[i]? = some true → htAt L i = P i
  low : ∀ i : Nat, ks[i]? = some true → -(100000 * (ks.count true : Int)) ≤ htAt L i ∧ htAt L i ≤ 100000 * (ks.count true : Int)
  go : N ≤ ks.count true ∨ t + 2 ≤ ks.count true ∨ (t + 1 ≤ ks.count true ∧ ∀ (j : Nat) (r : Rn), j < k → us[j]? = some r → ks[r.f.toNat]? = ks[r.t.toNat]?)
theorem Known.start {N : Nat} {us : List Rn} {P : Int → Int} (hN : 0 < N) (hP : P 0 = 0) : Known N us P 0 0 ((List.replicate N false).set 0 true) (List.replicate N 0) := by
  have h0 : (List.replicate N false)[0]? = some false := by simp [hN]
  have hc := count_set_true h0
  have hz : (List.replicate N false).count true = 0 := by simp [List.count_replicate]
  have only : ∀ i : Nat, ((List.replicate N false).set 0 true)[i]? = some true → i = 0 := fun i hi => by
    rw [List.getElem?_set] at hi
    split at hi
    · omega
    · rw [List.getElem?_replicate] at hi; split at hi <;> simp at hi
  have ht : htAt (List.replicate N 0) ((0 : Nat) : Int) = 0 := by unfold htAt; simp [hN]
  refine ⟨by simp, by simp, by simp [hN], fun i hi => ?_, fun i hi => ?_, .inr (.inr ⟨by omega, fun j r hj => by omega⟩)⟩
  · have := only i hi; subst this; rw [ht]; exact hP.symm
  · have := only i hi; subst this; rw [ht]; omega
section
variable {N : Nat} {us : List Rn} {P : Int → Int} {t k : Nat} {ks : List Bool} {L : List Int} {r : Rn}
theorem Known.bound (h : Known N us P t k ks L) (hN : N ≤ 6) {x : Int} (h0 : 0 ≤ x) (hk : ks[x.toNat]? = some true) : -600000 ≤ htAt L x ∧ htAt L x ≤ 600000 := by
  have := h.low x.toNat hk
  rw [show ((x.toNat : Nat) : Int) = x by omega] at this
  have hc : ks.count true ≤ N := by rw [← h.len]; exact List.count_le_length
  omega
theorem Known.same (h : Known N us P t k ks L) (hr : us[k]? = some r) (he : ks[r.f.toNat]? = ks[r.t.toNat]?) : Known N us P t (k + 1) ks L := by
  refine ⟨h.len, h.lenL, h.zero, h.pot, h.low, ?_⟩
  rcases h.go with g | g | ⟨g1, g2⟩
  · exact .inl g
  · exact .inr (.inl g)
  · refine .inr (.inr ⟨g1, fun j r' hj hr' => ?_⟩)
    by_cases e : j = k
    · subst e; rw [hr] at hr'; cases hr'; exact he
    · exact g2 j r' (by omega) hr'
/-- a node more is known -/
theorem Known.more (h : Known N us P t k ks L) {x y : Nat} {z : Int} (hx : ks[x]? = some true) (hy : ks[y]? = some false) (hz : z = P y) (hd : -100000 ≤ z - htAt L x ∧ z - htAt L x ≤ 100000) : Known N us P t (k + 1) (ks.set y true) (L.set y z) := by
  have hyl := (List.getElem?_eq_some_iff.1 hy).1
  have hc := count_set_true hy
  have hl := h.len
  have hlL := h.lenL
  have get : ∀ i : Nat, htAt (L.set y z) (i : Int) = if i = y then z else htAt L i := fun i => by
    unfold htAt
    rw [Int.toNat_natCast, List.getElem?_set]
    by_cases e : y = i
    · subst e; simp [hlL, ← hl, hyl]
    · rw [if_neg e, if_neg (fun e' => e e'.symm)]
  have old : ∀ i : Nat, i ≠ y → (ks.set y true)[i]? = some true → ks[i]? = some true := fun i hi h' => by
    rw [List.getElem?_set, if_neg (fun e => hi e.symm)] at h'; exact h'
  refine ⟨by simp [hl], by simp [hlL], ?_, fun i hi => ?_, fun i hi => ?_, ?_⟩
  · rw [List.getElem?_set]; split
    · subst_vars; simp at *; try omega
    · exact h.zero
  · rw [get]; split
    · subst_vars; rfl
    · exact h.pot i (old i (by assumption) hi)
  · rw [get, hc]; split
    · have := h.low x hx; omega
    · have := h.low i (old i (by assumption) hi); omega
  · rw [hc]
    rcases h.go with g | g | ⟨g1, g2⟩
    · exact .inl (by omega)
    · exact .inr (.inl (by omega))
    · exact .inr (.inl (by omega))
theorem Known.next (h : Known N us P t us.length ks L) (hN : 0 < N) (hok : EndsIn N us) (hw : ∀ i : Nat, i < N → Same us 0 i) : Known N us P (t + 1) 0 ks L := by
  refine ⟨h.len, h.lenL, h.zero, h.pot, h.low, ?_⟩
  rcases h.go with g | g | ⟨g1, g2⟩
  · exact .inl g
  · exact .inr (.inr ⟨by omega, fun j r hj => by omega⟩)
  · refine .inl ?_
    have hall : ∀ b ∈ ks, true = b := fun b hb => by
      obtain ⟨i, hi⟩ := List.getElem?_of_mem hb
      have hil : i < N := by rw [← h.len]; exact (List.getElem?_eq_some_iff.1 hi).1
      have := (hw i hil (fun x => ks[x.toNat]? = some true) (fun r hr => by
        obtain ⟨j, hj⟩ := List.getElem?_of_mem hr
        rw [g2 j r (List.getElem?_eq_some_iff.1 hj).1 hj])).1 (by simpa using h.zero)
      rw [Int.toNat_natCast, hi] at this
      simpa using this.symm
    rw [List.count_eq_length.2 hall, h.len]; exact Nat.le_refl _
theorem Known.done (h : Known N us P N 0 ks L) (hN : 0 < N) (hok : EndsIn N us) (hP : P 0 = 0) (hPr : ∀ r ∈ us, P r.t - P r.f = r.s) : IsHt N us L := by
  have hc : ks.length ≤ ks.count true := by rw [h.len]; rcases h.go with g | g | ⟨g, -⟩ <;> omega
  have all : ∀ i : Nat, i < N → htAt L i = P i := fun i hi => h.pot i (by
    have := List.getElem?_eq_getElem (by rw [h.len]; exact hi : i < ks.length)
    rw [this, count_all hc this])
  refine ⟨h.lenL, by have := all 0 hN; rw [show ((0 : Nat) : Int) = 0 from rfl] at this; rw [this, hP], fun r hr => ?_⟩
  obtain ⟨a0, a1, a2, a3⟩ := hok r hr
  have b1 := all r.f.toNat (by omega)
  have b2 := all r.t.toNat (by omega)
  rw [show ((r.f.toNat : Nat) : Int) = r.f by omega] at b1
  rw [show ((r.t.toNat : Nat) : Int) = r.t by omega] at b2
  rw [b1, b2]; exact hPr r hr
end
/-- heights of a tree fit its runs, and all runs if these are those of heights -/
theorem ht_all {N : Nat} {us rs : List Rn} {L hs : List Int} (hw : ∀ i : Nat, i < N → Same us 0 i) (hok : EndsIn N rs) (hs0 : ∀ r ∈ us, r ∈ rs) (h : IsHt N us L) (hr : ∀ r ∈ rs, htAt hs r.t - htAt hs r.f = r.s) : ∀ r ∈ rs, htAt L r.t - htAt L r.f = r.s := by
  have key : ∀ i : Nat, i < N → htAt L i = htAt hs i - htAt hs 0 := fun i hi =>
    (hw i hi (fun x => htAt L x = htAt hs x - htAt hs 0) (fun r hr' => by
      have := h.fit r hr'; have := hr r (hs0 r hr'); constructor <;> intro _ <;> omega)).1 (by rw [h.zero]; omega)
  intro r hr'
  obtain ⟨a0, a1, a2, a3⟩ := hok r hr'
  have b1 := key r.f.toNat (by omega)
  have b2 := key r.t.toNat (by omega)
  rw [show ((r.f.toNat : Nat) : Int) = r.f by omega] at b1
  rw [show ((r.t.toNat : Nat) : Int) = r.t by omega] at b2
  have := hr r hr'
  omega
/-- heights of a tree of runs of at most 100000 stay in range -/
theorem ht_low {N : Nat} {us : List Rn} {L : List Int} (hN : 0 < N) (hl : N ≤ 6) (hok : EndsIn N us) (hw : ∀ i : Nat, i < N → Same us 0 i) (h : IsHt N us L) (hb : ∀ r ∈ us, -100000 ≤ r.s ∧ r.s ≤ 100000) : ∀ (i : Nat) (z : Int), L[i]? = some z → -600000 ≤ z ∧ z ≤ 600000 := by
  -- the rounds over the runs, with these heights as the potential
  have run : ∀ (t k : Nat) (ks : List Bool), k ≤ us.length → Known N us (htAt L) t k ks L → ∃ ks', Known N us (htAt L) t us.length ks' L := by
    intro t k ks hk h1
    obtain ⟨d, hd⟩ : ∃ d, k + d = us.length := ⟨us.length - k, by omega⟩
    clear hk
    induction d generalizing k ks with
    | zero => exact ⟨ks, by rw [← hd]; exact h1⟩
    | succ d ih =>
      have hr := List.getElem?_eq_getElem (by omega : k < us.length)
      have hm := List.mem_of_getElem? hr
      generalize us[k] = r at hr hm
      obtain ⟨a0, a1, a2, a3⟩ := hok r hm
      have hf := h.fit r hm
      have hs := hb r hm
      obtain ⟨bf, x1⟩ : ∃ b, ks[r.f.toNat]? = some b := ⟨_, List.getElem?_eq_getElem (by rw [h1.len]; omega)⟩
      obtain ⟨bt, x2⟩ : ∃ b, ks[r.t.toNat]? = some b := ⟨_, List.getElem?_eq_getElem (by rw [h1.len]; omega)⟩
      have ef : ((r.f.toNat : Nat) : Int) = r.f := Int.toNat_of_nonneg a0
      have et : ((r.t.toNat : Nat) : Int) = r.t := Int.toNat_of_nonneg a2
      have setSelf : ∀ y : Nat, y < N → L.set y (htAt L (y : Int)) = L := fun y hy => by
        have := htAt_get (L := L) (x := (y : Int)) (by omega) (by have := h.len; omega)
        rw [Int.toNat_natCast] at this
        obtain ⟨hl', e⟩ := List.getElem?_eq_some_iff.1 this
        rw [← e]; exact List.set_getElem_self hl'
      cases bf <;> cases bt
      · exact ih (k + 1) ks (h1.same hr (by rw [x1, x2])) (by omega)
      · have := h1.more (z := htAt L ((r.f.toNat : Nat) : Int)) x2 x1 rfl (by rw [ef, et]; omega)
        rw [setSelf _ (by omega)] at this
        exact ih (k + 1) _ this (by omega)
      · have := h1.more (z := htAt L ((r.t.toNat : Nat) : Int)) x1 x2 rfl (by rw [ef, et]; omega)
        rw [setSelf _ (by omega)] at this
        exact ih (k + 1) _ this (by omega)
      · exact ih (k + 1) ks (h1.same hr (by rw [x1, x2])) (by omega)
  have rounds : ∀ t : Nat, ∃ ks, Known N us (htAt L) t 0 ks L := by
    intro t
    induction t with
    | zero =>
      refine ⟨(List.replicate N false).set 0 true, ?_⟩
      have s := Known.start (us := us) (P := htAt L) hN h.zero
      have only : ∀ i : Nat, ((List.replicate N false).set 0 true)[i]? = some true → i = 0 := fun i hi => by
        rw [List.getElem?_set] at hi
        split at hi
        · omega
        · rw [List.getElem?_replicate] at hi; split at hi <;> simp at hi
      refine ⟨s.len, h.len, s.zero, fun i _ => rfl, fun i hi => ?_, s.go⟩
      have := only i hi; subst this
      have := h.zero
      rw [show ((0 : Nat) : Int) = 0 from rfl, this]; omega
    | succ t ih =>
      obtain ⟨ks, hk⟩ := ih
      obtain ⟨ks', hk'⟩ := run t 0 ks (Nat.zero_le _) hk
      exact ⟨ks', hk'.next hN hok hw⟩
  obtain ⟨ks, hk⟩ := rounds N
  have hc : ks.length ≤ ks.count true := by rw [hk.len]; rcases hk.go with g | g | ⟨g, -⟩ <;> omega
  intro i z hz
  have hi : i < N := by rw [← h.len]; exact (List.getElem?_eq_some_iff.1 hz).1
  have e := List.getElem?_eq_getElem (by rw [hk.len]; exact hi : i < ks.length)
  have := hk.bound hl (x := (i : Int)) (by omega) (by rw [Int.toNat_natCast, e, count_all hc e])
  rw [htAt_nat hz] at this; exact this
end Go.Proofs.YtoaomjchaihkaaaGreatDoor
namespace Go.Proofs.YtoaomjchaihkaaaGreatDoor
set_option linter.unusedVariables false

theorem Asc.sub_ok {N : Nat} {rs : List Rn} {T : List Int} (h : Asc rs.length T) (hn : nOk N rs = true) (hl : T.length ≤ 12) : nOk N (sub rs T) = true := by
  obtain ⟨h1, h2, h3, h4⟩ := nOk_true hn
  exact nOk_of h1 h2 (by rw [sub_len]; exact hl) (fun i r hi => by
    obtain ⟨j, hj⟩ := List.getElem?_of_mem (h.mem_sub (Nat.le_refl _) r (List.mem_of_getElem? hi))
    exact h4 j r hj)

/-! weights -/
/-- the runs with weights turned by g -/
def reW (g : Int → Int) (rs : List Rn) : List Rn := rs.map (fun r => { r with g := g r.g })
theorem same_reW {g : Int → Int} {rs : List Rn} {i j : Int} : Same (reW g rs) i j ↔ Same rs i j := by
  constructor
  · intro h p hp
    exact h p (fun r hr => by obtain ⟨r', hr', rfl⟩ := List.mem_map.1 hr; exact hp r' hr')
  · intro h p hp
    exact h p (fun r hr => hp { r with g := g r.g } (List.mem_map.2 ⟨r, hr, rfl⟩))
theorem reW_len (g : Int → Int) (rs : List Rn) : (reW g rs).length = rs.length := by simp [reW]
theorem runOf_reW {g : Int → Int} {rs : List Rn} {z : Int} (h0 : 0 ≤ z) (h1 : z < rs.length) : runOf (reW g rs) z = { runOf rs z with g := g (runOf rs z).g } := by
  have := runOf_at h0 h1
  unfold runOf reW at *
  rw [List.getElem?_map, this]; rfl
theorem sub_reW {g : Int → Int} {rs : List Rn} {T : List Int} (h : Asc rs.length T) : sub (reW g rs) T = reW g (sub rs T) := by
  unfold sub
  rw [show reW g (List.map (runOf rs) T) = T.map (fun z => { runOf rs z with g := g (runOf rs z).g }) by simp [reW]]
  exact List.map_congr_left (fun z hz => by obtain ⟨a, b⟩ := h.rng z hz; exact runOf_reW a b)
theorem nOk_reW {N : Nat} {g : Int → Int} {rs : List Rn} (hn : nOk N rs = true) (hg : ∀ r ∈ rs, 1 ≤ g r.g ∧ g r.g ≤ 9) : nOk N (reW g rs) = true := by
  obtain ⟨h1, h2, h3, h4⟩ := nOk_true hn
  refine nOk_of h1 h2 (by rw [reW_len]; exact h3) (fun i r hi => ?_)
  unfold reW at hi
  rw [List.getElem?_map] at hi
  obtain ⟨x, hx, rfl⟩ := Option.map_eq_some_iff.1 hi
  obtain ⟨a1, a2, a3, a4, a5, a6, a7, a8, a9⟩ := rOk_true (h4 i x hx)
  obtain ⟨g1, g2⟩ := hg x (List.mem_of_getElem? hx)
  exact rOk_of a1 a2 a3 a4 a5 a6 a7 g1 g2
theorem tree_reW {N : Nat} {g : Int → Int} {rs : List Rn} {T : List Int} (hn : nOk N rs = true) (hg : nOk N (reW g rs) = true) : IsTree N (reW g rs) T ↔ IsTree N rs T := by
  have hN := (nOk_true hn).1
  have hN6 := (nOk_true hn).2.1
  constructor
  · intro h
    have ha : Asc rs.length T := by have := h.asc; rwa [reW_len] at this
    refine ⟨hn, h.len, ha, whole_of (ha.sub_ok hn (by have := h.len; omega)) (fun i hi => ?_)⟩
    have := whole_same h.whole hi
    rw [sub_reW ha] at this
    exact same_reW.1 this
  · intro h
    have ha : Asc (reW g rs).length T := by rw [reW_len]; exact h.asc
    refine ⟨hg, h.len, ha, whole_of (ha.sub_ok hg (by have := h.len; omega)) (fun i hi => ?_)⟩
    rw [sub_reW h.asc]
    exact same_reW.2 (whole_same h.whole hi)
theorem trees_reW {N : Nat} {g : Int → Int} {rs : List Rn} (hn : nOk N rs = true) (hg : nOk N (reW g rs) = true) : trees N (reW g rs) = trees N rs := by
  unfold trees
  rw [reW_len]
  refine List.filter_congr (fun T _ => ?_)
  apply Bool.eq_iff_iff.2
  rw [isT_true, isT_true]
  exact tree_reW hn hg
theorem foldl_mul (l : List Int) : ∀ a : Int, l.foldl (· * ·) a = a * l.foldl (· * ·) 1 := by
  induction l with
  | nil => intro a; simp
  | cons x l ih => intro a; simp only [List.foldl_cons]; rw [ih (a * x), ih (1 * x)]; simp [Int.mul_assoc]
theorem foldl_add (l : List Int) : ∀ a : Int, l.foldl (· + ·) a = a + l.foldl (· + ·) 0 := by
  induction l with
  | nil => intro a; simp
  | cons x l ih => intro a; simp only [List.foldl_cons]; rw [ih (a + x), ih (0 + x)]; omega
theorem prod_one (l : List Int) (h : ∀ x ∈ l, x = 1) : l.foldl (· * ·) 1 = 1 := by
  induction l with
  | nil => rfl
  | cons x l ih =>
    simp only [List.foldl_cons]
    rw [h x (by simp)]
    exact ih (fun y hy => h y (List.mem_cons_of_mem _ hy))
theorem prod_two (l : List Int) : (l.map (2 * ·)).foldl (· * ·) 1 = 2 ^ l.length * l.foldl (· * ·) 1 := by
  induction l with
  | nil => simp
  | cons x l ih =>
    simp only [List.map_cons, List.foldl_cons, List.length_cons]
    rw [foldl_mul _ (1 * (2 * x)), foldl_mul _ (1 * x), ih, Int.pow_succ]
    grind
theorem prod_pos (l : List Int) (h : ∀ x ∈ l, 1 ≤ x) : 1 ≤ l.foldl (· * ·) 1 := by
  induction l with
  | nil => exact Int.le_refl _
  | cons x l ih =>
    simp only [List.foldl_cons]
    rw [foldl_mul]
    have a := h x (by simp)
    have b := ih (fun y hy => h y (List.mem_cons_of_mem _ hy))
    have : 1 * x * 1 ≤ 1 * x * l.foldl (· * ·) 1 := Int.mul_le_mul_of_nonneg_left b (by omega)
    omega
theorem weigh_pos {N : Nat} {rs : List Rn} {T : List Int} (hn : nOk N rs = true) (h : Asc rs.length T) : 1 ≤ weigh rs T := by
  refine prod_pos _ (fun x hx => ?_)
  obtain ⟨z, hz, rfl⟩ := List.mem_map.1 hx
  obtain ⟨z0, z1⟩ := h.rng z hz
  have := rOk_true ((nOk_true hn).2.2.2 _ _ (runOf_at z0 z1))
  omega
theorem sum_const (l : List (List Int)) (f : List Int → Int) (h : ∀ T ∈ l, f T = 1) : (l.map f).foldl (· + ·) 0 = (l.length : Int) := by
  induction l with
  | nil => rfl
  | cons x l ih =>
    simp only [List.map_cons, List.foldl_cons, List.length_cons]
    rw [foldl_add, ih (fun T hT => h T (List.mem_cons_of_mem _ hT)), h x (by simp)]
    omega
theorem sum_mul (l : List (List Int)) (f g : List Int → Int) (c : Int) (h : ∀ T ∈ l, f T = c * g T) : (l.map f).foldl (· + ·) 0 = c * (l.map g).foldl (· + ·) 0 := by
  induction l with
  | nil => simp
  | cons x l ih =>
    simp only [List.map_cons, List.foldl_cons]
    rw [foldl_add, foldl_add (l.map g), ih (fun T hT => h T (List.mem_cons_of_mem _ hT)), h x (by simp)]
    simp [Int.mul_add]
theorem sum_ge (l : List (List Int)) (f : List Int → Int) (h : ∀ T ∈ l, 1 ≤ f T) : (l.length : Int) ≤ (l.map f).foldl (· + ·) 0 := by
  induction l with
  | nil => simp
  | cons x l ih =>
    simp only [List.map_cons, List.foldl_cons, List.length_cons]
    rw [foldl_add]
    have := ih (fun T hT => h T (List.mem_cons_of_mem _ hT))
    have := h x (by simp)
    omega
/-- with all weights 1 trees are counted -/
theorem heavy_one {N : Nat} {rs : List Rn} (hn : nOk N rs = true) : nOk N (reW (fun _ => 1) rs) = true ∧ heavy N (reW (fun _ => 1) rs) = many N rs := by
  have hg := nOk_reW (g := fun _ => 1) hn (fun r _ => ⟨by omega, by omega⟩)
  refine ⟨hg, ?_⟩
  unfold heavy many
  rw [trees_reW hn hg]
  refine sum_const _ _ (fun T hT => ?_)
  have ha := (mem_trees.1 hT).asc
  refine prod_one _ (fun x hx => ?_)
  obtain ⟨z, hz, rfl⟩ := List.mem_map.1 hx
  obtain ⟨z0, z1⟩ := ha.rng z hz
  rw [runOf_reW z0 z1]
/-- with all weights doubled -/
theorem heavy_two {N : Nat} {rs : List Rn} (hn : nOk N rs = true) (h2 : ∀ r ∈ rs, 2 * r.g ≤ 9) : nOk N (reW (2 * ·) rs) = true ∧ heavy N (reW (2 * ·) rs) = 2 ^ (N - 1) * heavy N rs := by
  have hg := nOk_reW (g := (2 * ·)) hn (fun r hr => ⟨by
    obtain ⟨i, hi⟩ := List.getElem?_of_mem hr
    have := rOk_true ((nOk_true hn).2.2.2 i r hi); omega, h2 r hr⟩)
  refine ⟨hg, ?_⟩
  unfold heavy
  rw [trees_reW hn hg]
  refine sum_mul _ _ _ _ (fun T hT => ?_)
  have ht := mem_trees.1 hT
  have hl : T.length = N - 1 := by have := ht.len; omega
  have e : weigh (reW (2 * ·) rs) T = ((T.map (fun z => (runOf rs z).g)).map (2 * ·)).foldl (· * ·) 1 := by
    unfold weigh
    congr 1
    rw [List.map_map]
    exact List.map_congr_left (fun z hz => by obtain ⟨a, b⟩ := ht.asc.rng z hz; simp only [Function.comp]; rw [runOf_reW a b])
  rw [e, prod_two, List.length_map, hl]; rfl
theorem heavy_ge {N : Nat} {rs : List Rn} (hn : nOk N rs = true) : (many N rs : Int) ≤ heavy N rs :=
  sum_ge _ _ (fun T hT => weigh_pos hn (mem_trees.1 hT).asc)

/-! the runs of a tree -/
theorem tree_loops {N : Nat} {rs : List Rn} {T : List Int} (h : IsTree N rs T) : nLoops N (sub rs T) = 0 := by
  have h1 := whole_iff.1 h.whole
  rw [nLoops_yes h1.1]
  have : roots (labs N (sub rs T)) N = 1 := h1.2
  rw [this, sub_len]
  have := h.len
  omega
/-- without any one of its runs not all nodes are linked -/
theorem tree_less {N : Nat} {rs : List Rn} {T U : List Int} (h : IsTree N rs T) (hU : U.length + 1 = T.length) (hm : ∀ z ∈ U, z ∈ T) : nWhole N (sub rs U) = false := by
  apply Bool.eq_false_iff.2
  intro hw
  have h1 := whole_iff.1 hw
  have he : EndsIn N (sub rs U) := h.ends.sub (fun r hr => by
    obtain ⟨z, hz, rfl⟩ := mem_subOf.1 hr
    exact mem_subOf.2 ⟨z, hm z hz, rfl⟩)
  have := rk_ge he
  rw [sub_len] at this
  have := h.len
  omega
/-- runs without a loop at the front are the first tree -/
theorem first_front {N : Nat} {us vs : List Rn} (hok : EndsIn N (us ++ vs)) (hf : Free N us) : ∀ j : Nat, j ≤ us.length → firstT N (us ++ vs) j = (List.range j).map Int.ofNat ∧ sub (us ++ vs) (firstT N (us ++ vs) j) = us.take j := by
  intro j
  induction j with
  | zero => intro _; exact ⟨rfl, rfl⟩
  | succ j ih =>
    intro hj
    obtain ⟨e1, e2⟩ := ih (by omega)
    obtain ⟨r, hr⟩ : ∃ r, us[j]? = some r := ⟨_, List.getElem?_eq_getElem (by omega)⟩
    have hr' : (us ++ vs)[j]? = some r := by rw [List.getElem?_append_left (by omega)]; exact hr
    have hs := take_succ_of hr
    have hends : EndsIn N (us.take j ++ [r] ++ us.drop (j + 1)) := by rw [← hs, List.take_append_drop]; exact hok.left
    have hfree : Free N (us.take j ++ [r] ++ us.drop (j + 1)) := by rw [← hs, List.take_append_drop]; exact hf
    have hne := (hfree.left hends).ne hends.left
    have ht := firstT_take (N := N) hr' (by rw [e2]; exact hne)
    refine ⟨by rw [ht, e1, List.range_succ]; simp, ?_⟩
    rw [ht, sub_snoc _ _ j hr', e2, hs]
theorem first_front_all {N : Nat} {us vs : List Rn} (hN : 0 < N) (hok : EndsIn N (us ++ vs)) (hf : Free N us) (h1 : rk N us = 1) : firstT N (us ++ vs) (us ++ vs).length = (List.range us.length).map Int.ofNat := by
  obtain ⟨e1, e2⟩ := first_front hok hf us.length (Nat.le_refl _)
  rw [List.take_length] at e2
  have key : ∀ d : Nat, d ≤ vs.length → firstT N (us ++ vs) (us.length + d) = firstT N (us ++ vs) us.length := by
    intro d
    induction d with
    | zero => intro _; rfl
    | succ d ih =>
      intro hd
      have ih := ih (by omega)
      obtain ⟨r, hr⟩ : ∃ r, (us ++ vs)[us.length + d]? = some r := ⟨_, List.getElem?_eq_getElem (by simp; omega)⟩
      obtain ⟨a0, a1, a2, a3⟩ := hok r (List.mem_of_getElem? hr)
      rw [← Nat.add_assoc, firstT_skip hr, ih]
      rw [ih, e2]
      have hs := (rk_one hN).1 h1
      have b1 := hs r.f.toNat (by omega)
      have b2 := hs r.t.toNat (by omega)
      rw [Int.toNat_of_nonneg a0] at b1
      rw [Int.toNat_of_nonneg a2] at b2
      exact (lab_same a0 a1 a2 a3).2 (b1.symm.trans b2)
  rw [List.length_append, key vs.length (Nat.le_refl _), e1]
/-- one run of a tree for another: any ascending list with these members is a tree -/
theorem exchange_tree {N : Nat} {rs : List Rn} {T X : List Int} {k : Int} {i : Nat} {r : Rn} (h : IsTree N rs T) (hr : runOf rs k = r)
    (hi : ∀ j : Nat, j < N → Same (r :: sub rs (T.take i ++ T.drop (i + 1))) 0 j) (ha : Asc rs.length X) (hl : X.length = T.length) (hk : k ∈ X) (hm : ∀ z ∈ T.take i ++ T.drop (i + 1), z ∈ X) : IsTree N rs X := by
  have hN := (nOk_true h.ok).1
  have hN6 := (nOk_true h.ok).2.1
  refine ⟨h.ok, by have := h.len; omega, ha, whole_of (ha.sub_ok h.ok (by have := h.len; omega)) (fun j hj => (hi j hj).ends (EndsOf.of_mem (fun x hx => ?_)))⟩
  rcases List.mem_cons.1 hx with rfl | hx
  · exact mem_subOf.2 ⟨k, hk, hr⟩
  · obtain ⟨z, hz, rfl⟩ := mem_subOf.1 hx
    exact mem_subOf.2 ⟨z, hm z hz, rfl⟩
end Go.Proofs.YtoaomjchaihkaaaGreatDoor
namespace Go.Proofs.YtoaomjchaihkaaaGreatDoor
set_option linter.unusedVariables false

/-- all choices of indexes, from b on -/
def sbl : List Rn → Nat → List (List Int)
  | [], _ => [[]]
  | _ :: rs, b => sbl rs (b + 1) ++ (sbl rs (b + 1)).map ((b : Int) :: ·)
theorem mem_sbl : ∀ {rs : List Rn} {b : Nat} {T : List Int}, T ∈ sbl rs b ↔ (∀ z ∈ T, (b : Int) ≤ z ∧ z < (b : Int) + (rs.length : Int)) ∧ T.Pairwise (· < ·)
  | [], b, T => by
    simp only [sbl, List.mem_singleton]
    constructor
    · rintro rfl; exact ⟨fun z hz => by simp at hz, List.Pairwise.nil⟩
    · rintro ⟨h, -⟩
      cases T with
      | nil => rfl
      | cons z U => have := h z (by simp); simp at this; omega
  | r :: rs, b, T => by
    simp only [sbl, List.mem_append, List.mem_map]
    constructor
    · rintro (h | ⟨U, h, rfl⟩)
      · obtain ⟨h1, h2⟩ := mem_sbl.1 h
        exact ⟨fun z hz => by have := h1 z hz; simp only [List.length_cons]; omega, h2⟩
      · obtain ⟨h1, h2⟩ := mem_sbl.1 h
        refine ⟨fun z hz => ?_, List.pairwise_cons.2 ⟨fun z hz => by have := h1 z hz; omega, h2⟩⟩
        rcases List.mem_cons.1 hz with e | e
        · simp only [List.length_cons]; omega
        · have := h1 z e; simp only [List.length_cons]; omega
    · rintro ⟨h1, h2⟩
      cases T with
      | nil => exact .inl (mem_sbl.2 ⟨fun z hz => by simp at hz, List.Pairwise.nil⟩)
      | cons z U =>
        obtain ⟨h3, h4⟩ := List.pairwise_cons.1 h2
        have hz := h1 z (by simp)
        simp only [List.length_cons] at h1 hz
        by_cases e : z = (b : Int)
        · exact .inr ⟨U, mem_sbl.2 ⟨fun y hy => by have a := h3 y hy; have c := h1 y (List.mem_cons_of_mem _ hy); omega, h4⟩, by rw [e]⟩
        · refine .inl (mem_sbl.2 ⟨fun y hy => ?_, h2⟩)
          have c := h1 y hy
          rcases List.mem_cons.1 hy with a | a
          · omega
          · have := h3 y a; omega
theorem nodup_sbl : ∀ (rs : List Rn) (b : Nat), (sbl rs b).Nodup
  | [], _ => by simp [sbl]
  | r :: rs, b => by
    simp only [sbl]
    refine List.nodup_append.2 ⟨nodup_sbl rs _, ?_, ?_⟩
    · exact List.Pairwise.map _ (fun x y h e => h (by simpa using e)) (nodup_sbl rs (b + 1))
    · intro x hx y hy e
      subst e
      obtain ⟨U, -, rfl⟩ := List.mem_map.1 hy
      have := (mem_sbl.1 hx).1 (b : Int) (by simp)
      omega
theorem weigh_cons (rs : List Rn) (z : Int) (T : List Int) : weigh rs (z :: T) = (runOf rs z).g * weigh rs T := by
  unfold weigh
  rw [List.map_cons, List.foldl_cons, foldl_mul, Int.one_mul]
theorem sum_sbl {all : List Rn} : ∀ {rs : List Rn} {b : Nat} {Q : List Int → Bool} {P : List Rn → Prop}, (∀ i : Nat, rs[i]? = all[b + i]?) → (∀ T ∈ sbl rs b, (Q T = true ↔ P (sub all T))) → (((sbl rs b).filter Q).map (weigh all)).foldl (· + ·) 0 = sbw rs P
  | [], b, Q, P, _, h => by
    have h1 := h [] (by simp [sbl])
    have e : sub all [] = [] := rfl
    rw [e] at h1
    unfold sbl sbw
    by_cases hp : P []
    · rw [if_pos hp, List.filter_cons, if_pos (h1.2 hp)]; simp [weigh]
    · rw [if_neg hp, List.filter_cons, if_neg (fun hq => hp (h1.1 hq))]; rfl
  | r :: rs, b, Q, P, ha, h => by
    have hr : runOf all b = r := by
      have := ha 0
      simp only [List.getElem?_cons_zero, Nat.add_zero] at this
      unfold runOf
      rw [Int.toNat_natCast, ← this]; rfl
    have ha' : ∀ i : Nat, rs[i]? = all[b + 1 + i]? := fun i => by
      have := ha (i + 1)
      rw [List.getElem?_cons_succ] at this
      rw [this]; congr 1; omega
    have e1 := sum_sbl (all := all) (rs := rs) (b := b + 1) (Q := Q) (P := P) ha' (fun T hT => h T (by simp only [sbl]; exact List.mem_append_left _ hT))
    have e2 := sum_sbl (all := all) (rs := rs) (b := b + 1) (Q := fun T => Q ((b : Int) :: T)) (P := fun T => P (r :: T)) ha' (fun T hT => by
      have := h ((b : Int) :: T) (by simp only [sbl]; exact List.mem_append_right _ (List.mem_map.2 ⟨T, hT, rfl⟩))
      rw [show sub all ((b : Int) :: T) = runOf all b :: sub all T from rfl, hr] at this
      exact this)
    simp only [sbl, sbw]
    rw [List.filter_append, List.map_append, List.foldl_append, foldl_add, e1, List.filter_map, List.map_map]
    congr 1
    rw [← e2]
    exact sum_mul _ _ _ _ (fun T _ => by
      show weigh all ((b : Int) :: T) = _
      rw [weigh_cons, hr])
theorem spn_same {N : Nat} {us : List Rn} (hN : 0 < N) : Spn N S0 us ↔ ∀ i : Nat, i < N → Same us 0 i := by
  constructor
  · intro h i hi g hg
    by_cases g0 : g 0
    · have := h (fun x => ¬ g x) (fun r hr => not_congr (hg r hr)) (fun s _ hS => by
        have e : s = 0 := by simpa [S0] using hS
        subst e; exact fun c => c g0) i hi
      exact ⟨fun _ => Classical.not_not.1 this, fun _ => g0⟩
    · have := h g hg (fun s _ hS => by
        have e : s = 0 := by simpa [S0] using hS
        subst e; exact g0) i hi
      exact ⟨fun c => absurd c g0, fun c => absurd c this⟩
  · intro h φ hφ h0 i hi c
    exact h0 0 hN rfl ((h i hi φ hφ).2 c)
theorem whole_spn {N : Nat} {rs : List Rn} (hn : nOk N rs = true) : nWhole N rs = true ↔ Spn N S0 rs := by
  have h2 := (nOk_true hn).1
  rw [spn_same (by omega)]
  exact ⟨fun h i hi => whole_same h hi, fun h => whole_of hn h⟩
theorem nOk_in {N : Nat} {rs : List Rn} (hn : nOk N rs = true) : InN N rs := nOk_ends hn
theorem heavy_sbw {N : Nat} {rs : List Rn} (hn : nOk N rs = true) : heavy N rs = sbw rs (Frs N S0) := by
  have hN := (nOk_true hn).1
  obtain ⟨M, rfl⟩ : ∃ M, N = M + 1 := ⟨N - 1, by omega⟩
  rw [← heavy_of (L := (sbl rs 0).filter (isT ((M + 1 : Nat) : Int) rs)) ((nodup_sbl rs 0).sublist List.filter_sublist) (fun T => by
    rw [List.mem_filter, isT_true]
    exact ⟨fun h => h.2, fun h => ⟨mem_sbl.2 ⟨fun z hz => by have := h.asc.rng z hz; omega, h.asc.up⟩, h⟩⟩)]
  refine sum_sbl (fun i => by rw [Nat.zero_add]) (fun T hT => ?_)
  obtain ⟨h1, h2⟩ := mem_sbl.1 hT
  have hA : Asc rs.length T := ⟨fun z hz => by have := h1 z hz; omega, h2⟩
  rw [isT_true]
  unfold Frs
  rw [cnt_S0, sub_len]
  have hl : (nOk_true hn).2.2.1 = (nOk_true hn).2.2.1 := rfl
  have h12 := (nOk_true hn).2.1
  constructor
  · intro h
    have hlen := h.len
    have hok := hA.sub_ok hn (by omega)
    exact ⟨by omega, (whole_spn hok).1 h.whole⟩
  · rintro ⟨hlen, hs⟩
    have hok := hA.sub_ok hn (by omega)
    exact ⟨hn, by omega, hA, (whole_spn hok).2 hs⟩
/-- the matrix-tree theorem -/
theorem heavy_det {n : Nat} {rs : List Rn} (hn : nOk ((n + 1 : Nat) : Int) rs = true) : heavy (n + 1) rs = det n (lap0 rs) := by
  rw [heavy_sbw hn, det_trees (nOk_in hn)]
end Go.Proofs.YtoaomjchaihkaaaGreatDoor
namespace Go.Proofs.YtoaomjchaihkaaaGreatDoor
set_option linter.unusedVariables false

/-- the nodes low and high are the ends of a run -/
def Ends2 (r : Rn) (low high : Int) : Prop := (r.f = low ∧ r.t = high) ∨ (r.f = high ∧ r.t = low)
theorem erase_perm {rs : List Rn} {k : Nat} {r : Rn} (h : rs[k]? = some r) : rs.Perm (r :: rs.eraseIdx k) := by
  have e : rs = rs.take k ++ r :: rs.drop (k + 1) := by
    rw [← (List.getElem?_eq_some_iff.1 h).2, List.getElem_cons_drop, List.take_append_drop]
  rw [List.eraseIdx_eq_take_drop_succ]
  conv => lhs; rw [e]
  exact List.perm_middle
theorem mrg_append (low high : Int) (l l' : List Rn) : mrg low high (l ++ l') = mrg low high l ++ mrg low high l' := by unfold mrg; rw [List.map_append, List.filter_append]
theorem mrg_loop {low high : Int} {r : Rn} (h1 : low < high) (hr : Ends2 r low high) : mrg low high [r] = [] := by
  have := (mv_loop (r := r) h1).2 (.inr hr)
  unfold mrg; simp [this]
theorem mrg_erase {rs : List Rn} {k : Nat} {r : Rn} {low high : Int} (h : rs[k]? = some r) (h1 : low < high) (hr : Ends2 r low high) : mrg low high (rs.eraseIdx k) = mrg low high rs := by
  have e : rs = rs.take k ++ [r] ++ rs.drop (k + 1) := by
    rw [List.append_assoc, List.singleton_append, ← (List.getElem?_eq_some_iff.1 h).2, List.getElem_cons_drop, List.take_append_drop]
  rw [List.eraseIdx_eq_take_drop_succ, mrg_append]
  conv => rhs; rw [e]
  rw [mrg_append, mrg_append, mrg_loop h1 hr, List.append_nil]
theorem erase_ok {n : Int} {rs : List Rn} (hn : nOk n rs = true) (k : Nat) : nOk n (rs.eraseIdx k) = true := by
  obtain ⟨h1, h2, h3, h4⟩ := nOk_true hn
  refine nOk_of h1 h2 (Nat.le_trans (List.length_eraseIdx_le rs k) h3) (fun i r hi => ?_)
  obtain ⟨j, hj⟩ := List.getElem?_of_mem (List.eraseIdx_subset (List.mem_of_getElem? hi))
  exact h4 j r hj
theorem ends_in {n : Int} {rs : List Rn} {k : Nat} {r : Rn} {low high : Int} (hn : nOk n rs = true) (h : rs[k]? = some r) (h1 : low < high) (hr : Ends2 r low high) : 0 ≤ low ∧ high < n := by
  have := rOk_true ((nOk_true hn).2.2.2 k r h)
  rcases hr with ⟨a, b⟩ | ⟨a, b⟩ <;> omega
theorem mrg_ok {M : Nat} {rs : List Rn} {k : Nat} {r : Rn} {low high : Int} (hn : nOk ((M + 1 : Nat) : Int) rs = true) (hM : 2 ≤ M) (h : rs[k]? = some r) (h1 : low < high) (hr : Ends2 r low high) : nOk (M : Int) (mrg low high rs) = true := by
  obtain ⟨a, b, c, d⟩ := nOk_true hn
  obtain ⟨e1, e2⟩ := ends_in hn h h1 hr
  refine nOk_of (by omega) (by omega) (Nat.le_trans (List.length_filter_le _ _) (by rw [List.length_map]; exact c)) (fun i x hi => ?_)
  obtain ⟨hx1, hx2⟩ := List.mem_filter.1 (List.mem_of_getElem? hi)
  obtain ⟨y, hy, rfl⟩ := List.mem_map.1 hx1
  obtain ⟨j, hj⟩ := List.getElem?_of_mem hy
  have := rOk_true (d j y hj)
  have f1 := num2_in (N := M) e1 h1 (by omega) this.1 (by omega)
  have f2 := num2_in (N := M) e1 h1 (by omega) this.2.2.1 (by omega)
  have hne : (mv low high y).f ≠ (mv low high y).t := by simpa using hx2
  exact rOk_of f1.1 f1.2 f2.1 f2.2 hne this.2.2.2.2.2.1 this.2.2.2.2.2.2.1 this.2.2.2.2.2.2.2.1 this.2.2.2.2.2.2.2.2
/-- trees without the run and with it -/
theorem det_cutM {M : Nat} {rs : List Rn} {k : Nat} {r : Rn} {low high : Int} (hn : nOk ((M + 1 + 1 : Nat) : Int) rs = true) (hM : 1 ≤ M) (h : rs[k]? = some r) (h1 : low < high) (hr : Ends2 r low high) :
    det (M + 1) (lap0 rs) = det (M + 1) (lap0 (rs.eraseIdx k)) + r.g * det M (lap0 (mrg low high rs)) := by
  obtain ⟨e1, e2⟩ := ends_in hn h h1 hr
  have hn2 := erase_ok hn k
  have hn3 := mrg_ok hn (by omega) h h1 hr
  rw [det_trees (nOk_in hn), det_trees (nOk_in hn2), det_trees (nOk_in hn3), sbw_perm (erase_perm h) Frs.perm]
  simp only [sbw]
  rw [sbw_cut (N := M + 1) e1 h1 (by omega) hr (nOk_in hn2) (fun x hx => by
    obtain ⟨j, hj⟩ := List.getElem?_of_mem hx
    exact (rOk_true ((nOk_true hn2).2.2.2 j x hj)).2.2.2.2.1) (by omega), mrg_erase h h1 hr]
theorem whole_merge {M : Nat} {rs : List Rn} {k : Nat} {r : Rn} {low high : Int} (hn : nOk ((M + 1 : Nat) : Int) rs = true) (hM : 2 ≤ M) (h : rs[k]? = some r) (h1 : low < high) (hr : Ends2 r low high) : nWhole (M : Int) (mrg low high rs) = nWhole ((M + 1 : Nat) : Int) rs := by
  obtain ⟨e1, e2⟩ := ends_in hn h h1 hr
  have hn3 := mrg_ok hn hM h h1 hr
  have key : nWhole (M : Int) (mrg low high rs) = true ↔ nWhole ((M + 1 : Nat) : Int) rs = true := by
    rw [whole_spn hn3, whole_spn hn, ← mrg_erase h h1 hr]
    unfold mrg
    rw [Spn.filter, ← Spn.merge e1 h1 (by omega) hr]
    exact ⟨Spn.perm (erase_perm h).symm, Spn.perm (erase_perm h)⟩
  cases a : nWhole (M : Int) (mrg low high rs) <;> cases b : nWhole ((M + 1 : Nat) : Int) rs
  · rfl
  · rw [a, b] at key; exact absurd (key.2 rfl) (by simp)
  · rw [a, b] at key; exact absurd (key.1 rfl) (by simp)
  · rfl
end Go.Proofs.YtoaomjchaihkaaaGreatDoor
