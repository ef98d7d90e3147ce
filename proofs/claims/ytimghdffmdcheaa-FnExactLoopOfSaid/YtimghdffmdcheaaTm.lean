/-
  Trees of a net: how many parts runs leave, what a tree is, the first tree, and that trees exchange runs. No function of the program is named.
-/
import Derived.Test.YtimghdffmdcheaaNTree
namespace Go.Proofs.Ytimghdffmdcheaa
set_option linter.unusedVariables false

theorem take_get {α : Type} {l : List α} {j i : Nat} {x : α} (h : (l.take j)[i]? = some x) : l[i]? = some x := by
  rw [List.getElem?_take] at h
  split at h
  · exact h
  · cases h
theorem nOk_take {n : Int} {rs : List Rn} (h : nOk n rs = true) (j : Nat) : nOk n (rs.take j) = true := by
  obtain ⟨h1, h2, h3, h4⟩ := nOk_true h
  exact nOk_of h1 h2 (by simp; omega) (fun i r hi => h4 i r (take_get hi))
/-- each run goes from a node to a node -/
def EndsIn (N : Nat) (rs : List Rn) : Prop := ∀ r ∈ rs, 0 ≤ r.f ∧ r.f < (N : Int) ∧ 0 ≤ r.t ∧ r.t < (N : Int)
theorem nOk_ends {N : Nat} {rs : List Rn} (h : nOk N rs = true) : EndsIn N rs := fun r hr => by
  obtain ⟨i, hi⟩ := List.getElem?_of_mem hr
  obtain ⟨a1, a2, a3, a4, -⟩ := rOk_true ((nOk_true h).2.2.2 i r hi)
  exact ⟨a1, a2, a3, a4⟩
theorem EndsIn.sub {N : Nat} {rs us : List Rn} (h : EndsIn N rs) (hs : ∀ r ∈ us, r ∈ rs) : EndsIn N us := fun r hr => h r (hs r hr)
theorem EndsIn.left {N : Nat} {us vs : List Rn} (h : EndsIn N (us ++ vs)) : EndsIn N us := h.sub (fun r hr => List.mem_append_left _ hr)
theorem EndsIn.append {N : Nat} {us vs : List Rn} (h : EndsIn N us) (h' : EndsIn N vs) : EndsIn N (us ++ vs) := fun r hr => by
  rcases List.mem_append.1 hr with a | a
  · exact h r a
  · exact h' r a
noncomputable def lab (N : Nat) (rs : List Rn) (x : Int) : Int := htAt (labs N rs) x
/-- how many parts -/
noncomputable def rk (N : Nat) (rs : List Rn) : Nat := roots (labs N rs) N
theorem lab_lst {N : Nat} {rs : List Rn} {x : Int} (h0 : 0 ≤ x) (h1 : x < N) : Lst N rs x (lab N rs x) := (labs_is N rs).lst x h0 h1
theorem lab_same {N : Nat} {rs : List Rn} {x y : Int} (h0 : 0 ≤ x) (h1 : x < N) (h2 : 0 ≤ y) (h3 : y < N) : lab N rs x = lab N rs y ↔ Same rs x y :=
  ⟨fun e => (lab_lst h0 h1).same.symm.trans (by rw [e]; exact (lab_lst h2 h3).same), fun s => Lst.of_same h1 h3 (lab_lst h0 h1) (lab_lst h2 h3) s⟩
/-- each run has the ends of one of the other list -/
def EndsOf (rs rs' : List Rn) : Prop := ∀ r ∈ rs, Same rs' r.f r.t
theorem Same.ends {rs rs' : List Rn} (h : EndsOf rs rs') {i j : Int} (hs : Same rs i j) : Same rs' i j := fun g hg => hs g (fun r hr => h r hr g hg)
theorem EndsOf.of_mem {rs rs' : List Rn} (h : ∀ r ∈ rs, r ∈ rs') : EndsOf rs rs' := fun r hr => Same.run (h r hr)
theorem labs_ends {N : Nat} {rs rs' : List Rn} (h : EndsOf rs rs') (h' : EndsOf rs' rs) : labs N rs' = labs N rs := by
  have L := labs_is N rs
  have : IsLab N rs' (labs N rs) := ⟨L.len, fun i h0 h1 => by
    have := L.lst i h0 h1
    exact ⟨this.lo, this.le, this.same.ends h, fun x hx hx' hs => this.min x hx hx' (hs.ends h')⟩⟩
  exact (labs_eq this).symm
theorem roots_all {L : List Int} : ∀ k : Nat, (∀ i : Nat, i < k → htAt L i = i) → roots L k = k
  | 0, _ => rfl
  | k + 1, h => by simp only [roots]; rw [roots_all k (fun i hi => h i (by omega)), if_pos (h k (by omega))]
theorem rk_nil (N : Nat) : rk N [] = N := roots_full
theorem rk_loop {N : Nat} {rs : List Rn} {r : Rn} (hok : EndsIn N (rs ++ [r])) (he : lab N rs r.f = lab N rs r.t) : rk N (rs ++ [r]) = rk N rs := by
  obtain ⟨q0, q1, q2, q3⟩ := hok r (by simp)
  unfold rk; rw [labs_loop q0 q1 q2 q3 he]
theorem rk_link {N : Nat} {rs : List Rn} {r : Rn} (hok : EndsIn N (rs ++ [r])) (he : lab N rs r.f ≠ lab N rs r.t) : rk N rs = rk N (rs ++ [r]) + 1 := roots_link hok he
theorem rk_more {N : Nat} {us : List Rn} : ∀ {vs : List Rn}, EndsIn N (us ++ vs) → rk N us ≤ rk N (us ++ vs) + vs.length ∧ rk N (us ++ vs) ≤ rk N us := by
  intro vs
  induction vs generalizing us with
  | nil => intro _; simp
  | cons r vs ih =>
    intro hok
    have e : us ++ r :: vs = us ++ [r] ++ vs := by simp
    rw [e] at hok ⊢
    obtain ⟨i1, i2⟩ := ih hok
    have hl := hok.left
    have : rk N us ≤ rk N (us ++ [r]) + 1 ∧ rk N (us ++ [r]) ≤ rk N us := by
      by_cases he : lab N us r.f = lab N us r.t
      · have := rk_loop hl he; omega
      · have := rk_link hl he; omega
    simp only [List.length_cons]; omega
theorem rk_ge {N : Nat} {us : List Rn} (h : EndsIn N us) : N ≤ rk N us + us.length := by
  have := (rk_more (us := []) (vs := us) (by simpa using h)).1
  rw [rk_nil] at this; simpa using this
theorem lab_zero {N : Nat} {rs : List Rn} (h : 0 < N) : lab N rs 0 = 0 := by
  have l := lab_lst (rs := rs) (x := 0) (by omega) (by omega : (0 : Int) < N)
  have := l.lo; have := l.le; omega
theorem roots_pos {L : List Int} (h : htAt L 0 = 0) : ∀ k : Nat, 1 ≤ roots L (k + 1)
  | 0 => by simp only [roots]; rw [if_pos (by simpa using h)]; omega
  | k + 1 => by have := roots_pos h k; rw [roots]; omega
theorem roots_two {L : List Int} (h : htAt L 0 = 0) {c : Nat} (hc : 0 < c) (hr : htAt L c = c) : ∀ k : Nat, c < k → 2 ≤ roots L k
  | 0, h => by omega
  | k + 1, hk => by
    by_cases e : c = k
    · subst e
      obtain ⟨d, rfl⟩ : ∃ d, c = d + 1 := ⟨c - 1, by omega⟩
      have := roots_pos h d
      rw [roots, if_pos hr]; omega
    · have := roots_two h hc hr k (by omega)
      rw [roots]; omega
theorem rk_pos {N : Nat} {rs : List Rn} (h : 0 < N) : 1 ≤ rk N rs := by
  obtain ⟨M, rfl⟩ : ∃ M, N = M + 1 := ⟨N - 1, by omega⟩
  exact roots_pos (lab_zero h) M
/-- all nodes are linked exactly if there is one part -/
theorem rk_one {N : Nat} {rs : List Rn} (h : 0 < N) : rk N rs = 1 ↔ ∀ i : Nat, i < N → Same rs 0 i := by
  constructor
  · intro h1 i hi
    have l := lab_lst (rs := rs) (x := (i : Int)) (by omega) (by omega : (i : Int) < N)
    have e : lab N rs i = 0 := by
      apply Classical.byContradiction
      intro hne
      have hlo := l.lo
      have hle := l.le
      obtain ⟨c, hc⟩ : ∃ c : Nat, lab N rs i = c := ⟨(lab N rs i).toNat, by omega⟩
      have lc := lab_lst (rs := rs) (x := (c : Int)) (by omega) (by omega : (c : Int) < N)
      have : lab N rs c = c := by
        have := Lst.of_same (by omega) (by omega) lc l (by rw [← hc]; exact l.same)
        omega
      have := roots_two (L := labs N rs) (lab_zero h) (by omega : 0 < c) this N (by omega)
      unfold rk at h1; omega
    have := l.same
    rwa [e] at this
  · intro hs
    obtain ⟨M, rfl⟩ : ∃ M, N = M + 1 := ⟨N - 1, by omega⟩
    refine roots_zero M (fun i hi => ?_)
    have l := lab_lst (rs := rs) (x := (i : Int)) (by omega) (by omega : (i : Int) < ((M + 1 : Nat) : Int))
    have := l.min 0 (by omega) (by omega) (hs i hi)
    have := l.lo
    show lab _ rs i = 0
    omega
theorem whole_iff {N : Nat} {rs : List Rn} : nWhole N rs = true ↔ nOk N rs = true ∧ rk N rs = 1 := by
  constructor
  · intro h
    have hn : nOk N rs = true := by unfold nWhole at h; simp at h; exact h.1
    have hN := (nOk_true hn).1
    refine ⟨hn, ?_⟩
    obtain ⟨M, rfl⟩ : ∃ M, N = M + 1 := ⟨N - 1, by omega⟩
    have hz : (labs (M + 1 : Nat) rs).all (fun z => decide (z = 0)) = true := by unfold nWhole at h; rw [hn] at h; simpa using h
    refine roots_zero M (fun i hi => ?_)
    have e := htAt_get (L := labs (M + 1 : Nat) rs) (x := (i : Int)) (by omega) (by rw [labs_len]; omega)
    rw [List.all_eq_true] at hz
    simpa using hz _ (List.mem_of_getElem? e)
  · rintro ⟨hn, h1⟩
    have hN := (nOk_true hn).1
    have hs := (rk_one (by omega)).1 h1
    unfold nWhole
    rw [hn, Bool.true_and, List.all_eq_true]
    intro z hz
    obtain ⟨i, hi⟩ := List.getElem?_of_mem hz
    have hl : i < N := by have := (List.getElem?_eq_some_iff.1 hi).1; rw [labs_len] at this; exact this
    have l := lab_lst (rs := rs) (x := (i : Int)) (by omega) (by omega : (i : Int) < N)
    have := l.min 0 (by omega) (by omega) (hs i hl)
    have := l.lo
    have e : lab N rs i = z := by unfold lab; exact htAt_nat hi
    simp; omega
theorem whole_same {N : Nat} {rs : List Rn} (h : nWhole N rs = true) {i : Nat} (hi : i < N) : Same rs 0 i := (rk_one (by omega)).1 (whole_iff.1 h).2 i hi
theorem whole_of {N : Nat} {rs : List Rn} (hn : nOk N rs = true) (h : ∀ i : Nat, i < N → Same rs 0 i) : nWhole N rs = true := by
  have := (nOk_true hn).1
  exact whole_iff.2 ⟨hn, (rk_one (by omega)).2 h⟩
theorem whole_mono {N : Nat} {us rs : List Rn} (hn : nOk N rs = true) (hs : EndsOf us rs) (h : nWhole N us = true) : nWhole N rs = true :=
  whole_of hn (fun i hi => (whole_same h hi).ends hs)

/-! runs without a loop -/
def Free (N : Nat) (us : List Rn) : Prop := rk N us + us.length = N
theorem Free.left {N : Nat} {us vs : List Rn} (hok : EndsIn N (us ++ vs)) (h : Free N (us ++ vs)) : Free N us := by
  have := rk_ge hok.left
  have := rk_more hok
  unfold Free at *; simp at h; omega
theorem Free.ne {N : Nat} {us : List Rn} {r : Rn} (hok : EndsIn N (us ++ [r])) (h : Free N (us ++ [r])) : lab N us r.f ≠ lab N us r.t := fun e => by
  have := rk_loop hok e
  have := rk_ge hok.left
  unfold Free at h; simp at h; omega
theorem Free.snoc {N : Nat} {us : List Rn} {r : Rn} (hok : EndsIn N (us ++ [r])) (h : Free N us) (hne : lab N us r.f ≠ lab N us r.t) : Free N (us ++ [r]) := by
  have := rk_link hok hne
  unfold Free at *; simp; omega
theorem Free.nil (N : Nat) : Free N [] := by unfold Free; rw [rk_nil]; rfl
/-- runs without a loop fit some heights -/
theorem snoc_of {α : Type} {l : List α} {n : Nat} (h : l.length = n + 1) : ∃ l' r, l = l' ++ [r] ∧ l'.length = n :=
  ⟨l.dropLast, l.getLast (by intro e; simp [e] at h), (List.dropLast_concat_getLast _).symm, by simp [h]⟩
theorem Free.pot {N : Nat} : ∀ (n : Nat) {us : List Rn}, us.length = n → EndsIn N us → Free N us → ∃ P : Int → Int, ∀ r ∈ us, P r.t - P r.f = r.s := by
  intro n
  induction n with
  | zero => intro us hl _ _; exact ⟨fun _ => 0, fun r hr => by rw [List.eq_nil_of_length_eq_zero hl] at hr; simp at hr⟩
  | succ n ih =>
    intro us' hl hok hf
    obtain ⟨us, r, rfl, hl'⟩ := snoc_of hl
    have ih := @ih us hl'
    obtain ⟨P, hP⟩ := ih hok.left (hf.left hok)
    have hne := hf.ne hok
    obtain ⟨q0, q1, q2, q3⟩ := hok r (by simp)
    refine ⟨fun x => P x + if lab N us x = lab N us r.t then r.s - (P r.t - P r.f) else 0, fun r' hr' => ?_⟩
    rcases List.mem_append.1 hr' with h' | h'
    · obtain ⟨a0, a1, a2, a3⟩ := hok r' hr'
      have e : lab N us r'.f = lab N us r'.t := (lab_same a0 a1 a2 a3).2 (Same.run h')
      have := hP r' h'
      simp only [e]; omega
    · simp at h'; subst h'
      simp only [if_neg hne, if_true]; omega

/-! trees -/
structure IsTree (n : Int) (rs : List Rn) (T : List Int) : Prop where
  ok : nOk n rs = true
  len : (T.length : Int) + 1 = n
  asc : Asc rs.length T
  whole : nWhole n (sub rs T) = true
theorem sub_append (rs : List Rn) (T U : List Int) : sub rs (T ++ U) = sub rs T ++ sub rs U := by simp [sub]
theorem Asc.get {n : Nat} {T : List Int} (h : Asc n T) {i j : Nat} {x y : Int} (hi : T[i]? = some x) (hj : T[j]? = some y) (hlt : i < j) : x < y := by
  have hp := h.up
  rw [List.pairwise_iff_getElem] at hp
  obtain ⟨hl1, hx⟩ := List.getElem?_eq_some_iff.1 hi
  obtain ⟨hl2, hy⟩ := List.getElem?_eq_some_iff.1 hj
  have := hp i j hl1 hl2 hlt
  rw [hx, hy] at this; exact this
theorem Asc.sub_ends {N : Nat} {rs : List Rn} {T : List Int} (h : Asc rs.length T) (hn : nOk N rs = true) : EndsIn N (sub rs T) := (nOk_ends hn).sub (h.mem_sub (Nat.le_refl _))
section
variable {N : Nat} {rs : List Rn} {T : List Int}
theorem IsTree.rk (h : IsTree N rs T) : Free N (sub rs T) := by
  have := (whole_iff.1 h.whole).2
  have := h.len
  unfold Free; rw [sub_len]; omega
theorem IsTree.ends (h : IsTree N rs T) : EndsIn N (sub rs T) := h.asc.sub_ends h.ok
theorem IsTree.net (h : IsTree N rs T) : nWhole N rs = true := whole_mono h.ok (EndsOf.of_mem (h.asc.mem_sub (Nat.le_refl _))) h.whole
theorem First.tree (h : First N rs rs.length T) (hw : nWhole N rs = true) : IsTree N rs T := by
  obtain ⟨h1, h2⟩ := h.whole hw
  exact ⟨(whole_iff.1 hw).1, by omega, h.asc, h2⟩
end
/-! the first tree -/
noncomputable def firstT (N : Nat) (rs : List Rn) : Nat → List Int
  | 0 => []
  | k + 1 => match rs[k]? with
    | none => firstT N rs k
    | some r => if lab N (sub rs (firstT N rs k)) r.f = lab N (sub rs (firstT N rs k)) r.t then firstT N rs k else firstT N rs k ++ [(k : Int)]
theorem firstT_skip {N : Nat} {rs : List Rn} {k : Nat} {r : Rn} (hr : rs[k]? = some r) (he : lab N (sub rs (firstT N rs k)) r.f = lab N (sub rs (firstT N rs k)) r.t) : firstT N rs (k + 1) = firstT N rs k := by
  rw [firstT, hr]; simp only; rw [if_pos he]
theorem firstT_take {N : Nat} {rs : List Rn} {k : Nat} {r : Rn} (hr : rs[k]? = some r) (he : lab N (sub rs (firstT N rs k)) r.f ≠ lab N (sub rs (firstT N rs k)) r.t) : firstT N rs (k + 1) = firstT N rs k ++ [(k : Int)] := by
  rw [firstT, hr]; simp only; rw [if_neg he]
theorem firstT_is {N : Nat} {rs : List Rn} (hok : EndsIn N rs) : ∀ k : Nat, k ≤ rs.length → First N rs k (firstT N rs k)
  | 0, _ => First.start N rs
  | k + 1, h => by
    have ih := firstT_is hok k (by omega)
    have hr : rs[k]? = some rs[k] := List.getElem?_eq_getElem (by omega)
    by_cases he : lab N (sub rs (firstT N rs k)) rs[k].f = lab N (sub rs (firstT N rs k)) rs[k].t
    · rw [firstT_skip hr he]; exact ih.skip hok hr he
    · rw [firstT_take hr he]; exact ih.take hok hr he
theorem first_tree {N : Nat} {rs : List Rn} (hw : nWhole N rs = true) : IsTree N rs (firstT N rs rs.length) := (firstT_is (nOk_ends (whole_iff.1 hw).1) _ (Nat.le_refl _)).tree hw
/-- what comes later stands behind -/
theorem firstT_more {N : Nat} {rs : List Rn} (k : Nat) : ∀ d : Nat, ∃ U, firstT N rs (k + d) = firstT N rs k ++ U ∧ ∀ z ∈ U, (k : Int) ≤ z
  | 0 => ⟨[], by simp, fun z hz => by simp at hz⟩
  | d + 1 => by
    obtain ⟨U, e, h⟩ := firstT_more (N := N) (rs := rs) k d
    cases hr : rs[k + d]? with
    | none => exact ⟨U, by rw [← Nat.add_assoc, firstT, hr]; exact e, h⟩
    | some r =>
      by_cases he : lab N (sub rs (firstT N rs (k + d))) r.f = lab N (sub rs (firstT N rs (k + d))) r.t
      · exact ⟨U, by rw [← Nat.add_assoc, firstT_skip hr he]; exact e, h⟩
      · refine ⟨U ++ [((k + d : Nat) : Int)], by rw [← Nat.add_assoc, firstT_take hr he, e, List.append_assoc], fun z hz => ?_⟩
        rcases List.mem_append.1 hz with h' | h'
        · exact h z h'
        · simp at h'; subst h'; omega
/-- no run of the first tree can be replaced by an earlier one that stands behind the one ahead of it -/
theorem first_least {N : Nat} {rs : List Rn} (hn : nOk N rs = true) {i : Nat} {z k : Int} (hz : (firstT N rs rs.length)[i]? = some z) (h0 : 0 ≤ k) (hk : k < z) (hb : ∀ y, (firstT N rs rs.length)[i - 1]? = some y → 0 < i → y < k) :
    ¬ IsTree N rs ((firstT N rs rs.length).take i ++ k :: (firstT N rs rs.length).drop (i + 1)) := by
  intro ht
  have hok := nOk_ends hn
  have hF := firstT_is hok rs.length (Nat.le_refl _)
  obtain ⟨z0, z1⟩ := hF.asc.rng z (List.mem_of_getElem? hz)
  obtain ⟨q, rfl⟩ : ∃ q : Nat, k = (q : Int) := ⟨k.toNat, by omega⟩
  obtain ⟨U, e, hU⟩ := firstT_more (N := N) (rs := rs) q (rs.length - q)
  rw [show q + (rs.length - q) = rs.length by omega] at e
  have hlow : ∀ y ∈ firstT N rs q, y < (q : Int) := fun y hy => ((firstT_is hok q (by omega)).asc.rng y hy).2
  have hi1 : i < (firstT N rs rs.length).length := (List.getElem?_eq_some_iff.1 hz).1
  have hlen : (firstT N rs q).length = i := by
    rcases Nat.lt_trichotomy (firstT N rs q).length i with h | h | h
    · exfalso
      obtain ⟨y, hy⟩ : ∃ y, (firstT N rs rs.length)[i - 1]? = some y := ⟨_, List.getElem?_eq_getElem (by omega)⟩
      have hyk := hb y hy (by omega)
      rw [e, List.getElem?_append_right (by omega)] at hy
      have := hU y (List.mem_of_getElem? hy)
      omega
    · exact h
    · exfalso
      rw [e, List.getElem?_append_left h] at hz
      have := hlow z (List.mem_of_getElem? hz)
      omega
  have htake : (firstT N rs rs.length).take i = firstT N rs q := by rw [e, ← hlen]; simp
  obtain ⟨r, hr⟩ : ∃ r, rs[q]? = some r := ⟨_, List.getElem?_eq_getElem (by omega)⟩
  have hmem : ¬ (q : Int) ∈ firstT N rs rs.length := fun hm => by
    obtain ⟨j, hj⟩ := List.getElem?_of_mem hm
    rcases Nat.lt_trichotomy j i with h | h | h
    · rw [e, List.getElem?_append_left (by omega)] at hj
      have := hlow _ (List.mem_of_getElem? hj); omega
    · subst h; rw [hz] at hj; cases hj; omega
    · have := hF.asc.get hz hj h; omega
  have hskip : lab N (sub rs (firstT N rs q)) r.f = lab N (sub rs (firstT N rs q)) r.t := by
    apply Classical.byContradiction
    intro hne
    obtain ⟨V, e2, -⟩ := firstT_more (N := N) (rs := rs) (q + 1) (rs.length - (q + 1))
    rw [show q + 1 + (rs.length - (q + 1)) = rs.length by omega, firstT_take hr hne] at e2
    exact hmem (by rw [e2]; simp)
  have hfree := ht.rk
  have hends := ht.ends
  rw [htake] at hfree hends
  have e3 : sub rs (firstT N rs q ++ (q : Int) :: (firstT N rs rs.length).drop (i + 1)) = (sub rs (firstT N rs q) ++ [r]) ++ sub rs ((firstT N rs rs.length).drop (i + 1)) := by
    rw [← sub_snoc rs _ q hr, ← sub_append]; simp
  rw [e3] at hfree hends
  exact (hfree.left hends).ne hends.left hskip
end Go.Proofs.Ytimghdffmdcheaa
