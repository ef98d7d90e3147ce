/-
  The heights that a tree gives: that there are some, that there are no others, and the rounds that find them. No function of the program is named.
-/
import Derived.Test.YtimghdffmdcheaaTn
namespace Go.Proofs.Ytimghdffmdcheaa
set_option linter.unusedVariables false

/-- the heights that runs give: 0 at the node 0, and each run's rise -/
structure IsHt (N : Nat) (us : List Rn) (L : List Int) : Prop where
  len : L.length = N
  zero : htAt L 0 = 0
  fit : ∀ r ∈ us, htAt L r.t - htAt L r.f = r.s
theorem IsHt.unique {N : Nat} {us : List Rn} {L L' : List Int} (hw : ∀ i : Nat, i < N → Same us 0 i) (h : IsHt N us L) (h' : IsHt N us L') : L = L' := by
  apply List.ext_getElem?
  intro i
  by_cases hi : i < N
  · have := (hw i hi (fun x => htAt L x = htAt L' x) (fun r hr => by
      have := h.fit r hr; have := h'.fit r hr; constructor <;> intro _ <;> omega)).1 (by rw [h.zero, h'.zero])
    have a := htAt_get (L := L) (x := (i : Int)) (by omega) (by have := h.len; omega)
    have b := htAt_get (L := L') (x := (i : Int)) (by omega) (by have := h'.len; omega)
    rw [Int.toNat_natCast] at a b
    rw [a, b, this]
  · rw [List.getElem?_eq_none (by have := h.len; omega), List.getElem?_eq_none (by have := h'.len; omega)]
/-- a potential with 0 at the node 0 -/
theorem pot_zero {N : Nat} {us : List Rn} (hok : EndsIn N us) (hf : Free N us) : ∃ P : Int → Int, P 0 = 0 ∧ ∀ r ∈ us, P r.t - P r.f = r.s := by
  obtain ⟨P, hP⟩ := Free.pot _ rfl hok hf
  exact ⟨fun x => P x - P 0, by simp, fun r hr => by have := hP r hr; simp; omega⟩
theorem count_set_true {ks : List Bool} {i : Nat} (h : ks[i]? = some false) : (ks.set i true).count true = ks.count true + 1 := by
  have hi := (List.getElem?_eq_some_iff.1 h).1
  have he := (List.getElem?_eq_some_iff.1 h).2
  rw [List.count_set hi, he]; simp
theorem count_all {ks : List Bool} (h : ks.length ≤ ks.count true) {i : Nat} {b : Bool} (hi : ks[i]? = some b) : b = true := by
  have e : ks.count true = ks.length := Nat.le_antisymm List.count_le_length h
  exact (List.count_eq_length.1 e b (List.mem_of_getElem? hi)).symm
/-- how far the rounds have come: t rounds and k runs of the next one -/
structure Known (N : Nat) (us : List Rn) (P : Int → Int) (t k : Nat) (ks : List Bool) (L : List Int) : Prop where
  len : ks.length = N
  lenL : L.length = N
  zero : ks[0]? = some true
  pot : ∀ i : Nat, ks[i]? = some true → htAt L i = P i
  low : ∀ i : Nat, ks[i]? = some true → -(100000 * (ks.count true : Int)) ≤ htAt L i ∧ htAt L i ≤ 100000 * (ks.count true : Int)
  go : N ≤ ks.count true ∨ t + 2 ≤ ks.count true ∨ (t + 1 ≤ ks.count true ∧ ∀ (j : Nat) (r : Rn), j < k → us[j]? = some r → ks[r.f.toNat]? = ks[r.t.toNat]?)
theorem Known.start {N : Nat} {us : List Rn} {P : Int → Int} (hN : 0 < N) (hP : P 0 = 0) : Known N us P 0 0 ((List.replicate N false).set 0 true) (List.replicate N 0) := by
  have h0 : (List.replicate N false)[0]? = some false := by simp [List.getElem?_replicate, hN]
  have hc := count_set_true h0
  have hz : (List.replicate N false).count true = 0 := by simp [List.count_replicate]
  have only : ∀ i : Nat, ((List.replicate N false).set 0 true)[i]? = some true → i = 0 := fun i hi => by
    rw [List.getElem?_set] at hi
    split at hi
    · omega
    · rw [List.getElem?_replicate] at hi; split at hi <;> simp at hi
  have ht : htAt (List.replicate N 0) ((0 : Nat) : Int) = 0 := by unfold htAt; simp [List.getElem?_replicate, hN]
  refine ⟨by simp, by simp, by simp [List.getElem?_set, hN], fun i hi => ?_, fun i hi => ?_, .inr (.inr ⟨by omega, fun j r hj => by omega⟩)⟩
  · have := only i hi; subst this; rw [ht]; exact hP.symm
  · have := only i hi; subst this; rw [ht]; omega
section
variable {N : Nat} {us : List Rn} {P : Int → Int} {t k : Nat} {ks : List Bool} {L : List Int} {r : Rn}
theorem Known.bound (h : Known N us P t k ks L) (hN : N ≤ 6) {x : Int} (h0 : 0 ≤ x) (hk : ks[x.toNat]? = some true) : -600000 ≤ htAt L x ∧ htAt L x ≤ 600000 := by
  have := h.low x.toNat hk
  rw [show ((x.toNat : Nat) : Int) = x by omega] at this
  have hc : ks.count true ≤ N := by rw [← h.len]; exact List.count_le_length
  omega
theorem Known.same (h : Known N us P t k ks L) (hr : us[k]? = some r) (he : ks[r.f.toNat]? = ks[r.t.toNat]?) : Known N us P t (k + 1) ks L := by
  refine ⟨h.len, h.lenL, h.zero, h.pot, h.low, ?_⟩
  rcases h.go with g | g | ⟨g1, g2⟩
  · exact .inl g
  · exact .inr (.inl g)
  · refine .inr (.inr ⟨g1, fun j r' hj hr' => ?_⟩)
    by_cases e : j = k
    · subst e; rw [hr] at hr'; cases hr'; exact he
    · exact g2 j r' (by omega) hr'
/-- a node more is known -/
theorem Known.more (h : Known N us P t k ks L) {x y : Nat} {z : Int} (hx : ks[x]? = some true) (hy : ks[y]? = some false) (hz : z = P y) (hd : -100000 ≤ z - htAt L x ∧ z - htAt L x ≤ 100000) : Known N us P t (k + 1) (ks.set y true) (L.set y z) := by
  have hyl := (List.getElem?_eq_some_iff.1 hy).1
  have hc := count_set_true hy
  have hl := h.len
  have hlL := h.lenL
  have get : ∀ i : Nat, htAt (L.set y z) (i : Int) = if i = y then z else htAt L i := fun i => by
    unfold htAt
    rw [Int.toNat_natCast, List.getElem?_set]
    by_cases e : y = i
    · subst e; simp [hlL, ← hl, hyl]
    · rw [if_neg e, if_neg (fun e' => e e'.symm)]
  have old : ∀ i : Nat, i ≠ y → (ks.set y true)[i]? = some true → ks[i]? = some true := fun i hi h' => by
    rw [List.getElem?_set, if_neg (fun e => hi e.symm)] at h'; exact h'
  refine ⟨by simp [hl], by simp [hlL], ?_, fun i hi => ?_, fun i hi => ?_, ?_⟩
  · rw [List.getElem?_set]; split
    · subst_vars; simp at *; try omega
    · exact h.zero
  · rw [get]; split
    · subst_vars; rfl
    · exact h.pot i (old i (by assumption) hi)
  · rw [get, hc]; split
    · have := h.low x hx; omega
    · have := h.low i (old i (by assumption) hi); omega
  · rw [hc]
    rcases h.go with g | g | ⟨g1, g2⟩
    · exact .inl (by omega)
    · exact .inr (.inl (by omega))
    · exact .inr (.inl (by omega))
theorem Known.next (h : Known N us P t us.length ks L) (hN : 0 < N) (hok : EndsIn N us) (hw : ∀ i : Nat, i < N → Same us 0 i) : Known N us P (t + 1) 0 ks L := by
  refine ⟨h.len, h.lenL, h.zero, h.pot, h.low, ?_⟩
  rcases h.go with g | g | ⟨g1, g2⟩
  · exact .inl g
  · exact .inr (.inr ⟨by omega, fun j r hj => by omega⟩)
  · refine .inl ?_
    have hall : ∀ b ∈ ks, true = b := fun b hb => by
      obtain ⟨i, hi⟩ := List.getElem?_of_mem hb
      have hil : i < N := by rw [← h.len]; exact (List.getElem?_eq_some_iff.1 hi).1
      have := (hw i hil (fun x => ks[x.toNat]? = some true) (fun r hr => by
        obtain ⟨j, hj⟩ := List.getElem?_of_mem hr
        rw [g2 j r (List.getElem?_eq_some_iff.1 hj).1 hj])).1 (by simpa using h.zero)
      rw [Int.toNat_natCast, hi] at this
      simpa using this.symm
    rw [List.count_eq_length.2 hall, h.len]; exact Nat.le_refl _
theorem Known.done (h : Known N us P N 0 ks L) (hN : 0 < N) (hok : EndsIn N us) (hP : P 0 = 0) (hPr : ∀ r ∈ us, P r.t - P r.f = r.s) : IsHt N us L := by
  have hc : ks.length ≤ ks.count true := by rw [h.len]; rcases h.go with g | g | ⟨g, -⟩ <;> omega
  have all : ∀ i : Nat, i < N → htAt L i = P i := fun i hi => h.pot i (by
    have := List.getElem?_eq_getElem (by rw [h.len]; exact hi : i < ks.length)
    rw [this, count_all hc this])
  refine ⟨h.lenL, by have := all 0 hN; rw [show ((0 : Nat) : Int) = 0 from rfl] at this; rw [this, hP], fun r hr => ?_⟩
  obtain ⟨a0, a1, a2, a3⟩ := hok r hr
  have b1 := all r.f.toNat (by omega)
  have b2 := all r.t.toNat (by omega)
  rw [show ((r.f.toNat : Nat) : Int) = r.f by omega] at b1
  rw [show ((r.t.toNat : Nat) : Int) = r.t by omega] at b2
  rw [b1, b2]; exact hPr r hr
end
/-- heights of a tree fit its runs, and all runs if these are those of heights -/
theorem ht_all {N : Nat} {us rs : List Rn} {L hs : List Int} (hw : ∀ i : Nat, i < N → Same us 0 i) (hok : EndsIn N rs) (hs0 : ∀ r ∈ us, r ∈ rs) (h : IsHt N us L) (hr : ∀ r ∈ rs, htAt hs r.t - htAt hs r.f = r.s) : ∀ r ∈ rs, htAt L r.t - htAt L r.f = r.s := by
  have key : ∀ i : Nat, i < N → htAt L i = htAt hs i - htAt hs 0 := fun i hi =>
    (hw i hi (fun x => htAt L x = htAt hs x - htAt hs 0) (fun r hr' => by
      have := h.fit r hr'; have := hr r (hs0 r hr'); constructor <;> intro _ <;> omega)).1 (by rw [h.zero]; omega)
  intro r hr'
  obtain ⟨a0, a1, a2, a3⟩ := hok r hr'
  have b1 := key r.f.toNat (by omega)
  have b2 := key r.t.toNat (by omega)
  rw [show ((r.f.toNat : Nat) : Int) = r.f by omega] at b1
  rw [show ((r.t.toNat : Nat) : Int) = r.t by omega] at b2
  have := hr r hr'
  omega
/-- heights of a tree of runs of at most 100000 stay in range -/
theorem ht_low {N : Nat} {us : List Rn} {L : List Int} (hN : 0 < N) (hl : N ≤ 6) (hok : EndsIn N us) (hw : ∀ i : Nat, i < N → Same us 0 i) (h : IsHt N us L) (hb : ∀ r ∈ us, -100000 ≤ r.s ∧ r.s ≤ 100000) : ∀ (i : Nat) (z : Int), L[i]? = some z → -600000 ≤ z ∧ z ≤ 600000 := by
  -- the rounds over the runs, with these heights as the potential
  have run : ∀ (t k : Nat) (ks : List Bool), k ≤ us.length → Known N us (htAt L) t k ks L → ∃ ks', Known N us (htAt L) t us.length ks' L := by
    intro t k ks hk h1
    obtain ⟨d, hd⟩ : ∃ d, k + d = us.length := ⟨us.length - k, by omega⟩
    clear hk
    induction d generalizing k ks with
    | zero => exact ⟨ks, by rw [← hd]; exact h1⟩
    | succ d ih =>
      have hr := List.getElem?_eq_getElem (by omega : k < us.length)
      have hm := List.mem_of_getElem? hr
      generalize us[k] = r at hr hm
      obtain ⟨a0, a1, a2, a3⟩ := hok r hm
      have hf := h.fit r hm
      have hs := hb r hm
      obtain ⟨bf, x1⟩ : ∃ b, ks[r.f.toNat]? = some b := ⟨_, List.getElem?_eq_getElem (by rw [h1.len]; omega)⟩
      obtain ⟨bt, x2⟩ : ∃ b, ks[r.t.toNat]? = some b := ⟨_, List.getElem?_eq_getElem (by rw [h1.len]; omega)⟩
      have ef : ((r.f.toNat : Nat) : Int) = r.f := Int.toNat_of_nonneg a0
      have et : ((r.t.toNat : Nat) : Int) = r.t := Int.toNat_of_nonneg a2
      have setSelf : ∀ y : Nat, y < N → L.set y (htAt L (y : Int)) = L := fun y hy => by
        have := htAt_get (L := L) (x := (y : Int)) (by omega) (by have := h.len; omega)
        rw [Int.toNat_natCast] at this
        obtain ⟨hl', e⟩ := List.getElem?_eq_some_iff.1 this
        rw [← e]; exact List.set_getElem_self hl'
      cases bf <;> cases bt
      · exact ih (k + 1) ks (h1.same hr (by rw [x1, x2])) (by omega)
      · have := h1.more (z := htAt L ((r.f.toNat : Nat) : Int)) x2 x1 rfl (by rw [ef, et]; omega)
        rw [setSelf _ (by omega)] at this
        exact ih (k + 1) _ this (by omega)
      · have := h1.more (z := htAt L ((r.t.toNat : Nat) : Int)) x1 x2 rfl (by rw [ef, et]; omega)
        rw [setSelf _ (by omega)] at this
        exact ih (k + 1) _ this (by omega)
      · exact ih (k + 1) ks (h1.same hr (by rw [x1, x2])) (by omega)
  have rounds : ∀ t : Nat, ∃ ks, Known N us (htAt L) t 0 ks L := by
    intro t
    induction t with
    | zero =>
      refine ⟨(List.replicate N false).set 0 true, ?_⟩
      have s := Known.start (us := us) (P := htAt L) hN h.zero
      have only : ∀ i : Nat, ((List.replicate N false).set 0 true)[i]? = some true → i = 0 := fun i hi => by
        rw [List.getElem?_set] at hi
        split at hi
        · omega
        · rw [List.getElem?_replicate] at hi; split at hi <;> simp at hi
      refine ⟨s.len, h.len, s.zero, fun i _ => rfl, fun i hi => ?_, s.go⟩
      have := only i hi; subst this
      have := h.zero
      rw [show ((0 : Nat) : Int) = 0 from rfl, this]; omega
    | succ t ih =>
      obtain ⟨ks, hk⟩ := ih
      obtain ⟨ks', hk'⟩ := run t 0 ks (Nat.zero_le _) hk
      exact ⟨ks', hk'.next hN hok hw⟩
  obtain ⟨ks, hk⟩ := rounds N
  have hc : ks.length ≤ ks.count true := by rw [hk.len]; rcases hk.go with g | g | ⟨g, -⟩ <;> omega
  intro i z hz
  have hi : i < N := by rw [← h.len]; exact (List.getElem?_eq_some_iff.1 hz).1
  have e := List.getElem?_eq_getElem (by rw [hk.len]; exact hi : i < ks.length)
  have := hk.bound hl (x := (i : Int)) (by omega) (by rw [Int.toNat_natCast, e, count_all hc e])
  rw [htAt_nat hz] at this; exact this
end Go.Proofs.Ytimghdffmdcheaa
