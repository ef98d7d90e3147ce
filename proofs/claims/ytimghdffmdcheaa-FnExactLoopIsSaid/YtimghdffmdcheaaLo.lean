/-
  Loops of a net: what closes has heights; a rise changed; rises of heights added; and the search for a way along a tree from run to run. No function of the program is named.
-/
import Derived.Test.YtimghdffmdcheaaLn
namespace Go.Proofs.Ytimghdffmdcheaa
set_option linter.unusedVariables false

section
variable {N : Nat} {n : Int} {rs : List Rn} {T L M A B : List Int} {a b c z e : Int} {k : Nat}
theorem ht_some (h : IsTree N rs T) : ∃ H, IsHt N (sub rs T) H := by
  obtain ⟨P, hP⟩ := Free.pot _ rfl h.ends h.rk
  have hN := (nOk_true h.ok).1
  have at_ : ∀ x : Int, 0 ≤ x → x < N → htAt ((List.range N).map (fun (i : Nat) => P i - P 0)) x = P x - P 0 := fun x h0 h1 => by
    unfold htAt
    rw [List.getElem?_map, List.getElem?_range (by omega)]
    simp [show ((x.toNat : Nat) : Int) = x by omega]
  refine ⟨(List.range N).map (fun (i : Nat) => P i - P 0), ⟨by simp, ?_, fun r hr => ?_⟩⟩
  · rw [at_ 0 (by omega) (by omega)]; omega
  · obtain ⟨a0, a1, a2, a3⟩ := h.ends r hr
    rw [at_ _ a0 a1, at_ _ a2 a3]
    have := hP r hr
    omega
noncomputable def closes (N : Nat) (rs : List Rn) : Bool := open Classical in decide (nWhole N rs = true ∧ ∀ e ∈ errs N rs, e = 0)
theorem closes_true : closes N rs = true ↔ nWhole N rs = true ∧ ∀ e ∈ errs N rs, e = 0 := by unfold closes; simp
/-- a net closes if it is whole and has heights -/
theorem closes_pot : closes N rs = true ↔ nWhole N rs = true ∧ ∃ P : Int → Int, ∀ r ∈ rs, P r.t - P r.f = r.s := by
  rw [closes_true]
  constructor
  · rintro ⟨hw, h⟩
    obtain ⟨H, hH⟩ := ht_some (first_tree hw)
    exact ⟨hw, htAt H, (errs_zero hw hH).1 h⟩
  · rintro ⟨hw, P, hP⟩
    obtain ⟨H, hH⟩ := ht_some (first_tree hw)
    refine ⟨hw, fun e he => ?_⟩
    have := (errsTo_all (N := N) (rs := rs) (p := fun e => e = 0) rs.length).2 (fun i hi hn => (loopT_is hw hi).flat hP)
    exact this e he
/-- with one run 1 higher a net that closes does so exactly if it is not whole without this run -/
theorem closes_up {r : Rn} (hc : closes N rs = true) (hr : rs[k]? = some r) (hv : nOk N (rs.set k { r with s := r.s + 1 }) = true) : closes N (rs.set k { r with s := r.s + 1 }) = !nWhole N (rs.take k ++ rs.drop (k + 1)) := by
  obtain ⟨hw, P, hP⟩ := closes_pot.1 hc
  have hk := (List.getElem?_eq_some_iff.1 hr).1
  have hrk : rs[k] = r := (List.getElem?_eq_some_iff.1 hr).2
  have e1 : rs = rs.take k ++ r :: rs.drop (k + 1) := by rw [← hrk, ← List.drop_eq_getElem_cons hk, List.take_append_drop]
  have e2 : rs.set k { r with s := r.s + 1 } = rs.take k ++ { r with s := r.s + 1 } :: rs.drop (k + 1) := List.set_eq_take_append_cons_drop .. |>.trans (by rw [if_pos hk])
  obtain ⟨us, hus⟩ : ∃ us, rs.take k = us := ⟨_, rfl⟩
  obtain ⟨vs, hvs⟩ : ∃ vs, rs.drop (k + 1) = vs := ⟨_, rfl⟩
  rw [hus, hvs] at e1 e2 ⊢
  rw [e2] at hv ⊢
  subst e1
  have hn := (whole_iff.1 hw).1
  have hnr : nOk N (us ++ vs) = true := by
    obtain ⟨h1, h2, h3, h4⟩ := nOk_true hn
    refine nOk_of h1 h2 (by simp at h3 ⊢; omega) (fun i x hx => ?_)
    have hm : x ∈ us ++ r :: vs := by
      have := List.mem_of_getElem? hx
      simp at this ⊢
      rcases this with h | h
      · exact .inl h
      · exact .inr (.inr h)
    obtain ⟨j, hj⟩ := List.getElem?_of_mem hm
    exact h4 j x hj
  have hPu : ∀ x ∈ us ++ vs, P x.t - P x.f = x.s := fun x hx => hP x (by simp at hx ⊢; rcases hx with h | h; exact .inl h; exact .inr (.inr h))
  have hPr := hP r (by simp)
  have hwx : nWhole N (us ++ { r with s := r.s + 1 } :: vs) = true := whole_mono (us := us ++ r :: vs) hv (fun x hx => by
    rcases List.mem_append.1 hx with h | h
    · exact Same.run (List.mem_append_left _ h)
    · rcases List.mem_cons.1 h with h | h
      · subst h; exact Same.run (r := { x with s := x.s + 1 }) (by simp)
      · exact Same.run (by simp [h])) hw
  obtain ⟨q0, q1, q2, q3⟩ := nOk_ends hn r (by simp)
  cases hb : nWhole N (us ++ vs)
  · -- not whole without it: lift one side
    have hns : ¬ Same (us ++ vs) r.f r.t := fun hs => by
      have := whole_mono (us := us ++ r :: vs) (rs := us ++ vs) hnr (fun x hx => by
        rcases List.mem_append.1 hx with h | h
        · exact Same.run (List.mem_append_left _ h)
        · rcases List.mem_cons.1 h with h | h
          · subst h; exact hs
          · exact Same.run (by simp [h])) hw
      rw [hb] at this; cases this
    obtain ⟨g, hg1, hg2⟩ : ∃ g : Int → Prop, (∀ x ∈ us ++ vs, (g x.f ↔ g x.t)) ∧ ¬ (g r.f ↔ g r.t) :=
      Classical.byContradiction (fun hno => hns (fun g hg => Classical.byContradiction (fun hh => hno ⟨g, hg, hh⟩)))
    obtain ⟨g, hg1, hgf, hgt⟩ : ∃ g : Int → Prop, (∀ x ∈ us ++ vs, (g x.f ↔ g x.t)) ∧ ¬ g r.f ∧ g r.t := by
      by_cases h1 : g r.f
      · exact ⟨fun x => ¬ g x, fun x hx => not_congr (hg1 x hx), fun h => h h1, fun h2 => hg2 ⟨fun _ => h2, fun _ => h1⟩⟩
      · exact ⟨g, hg1, h1, Classical.byContradiction (fun h2 => hg2 ⟨fun h => absurd h h1, fun h => absurd h h2⟩)⟩
    rw [Bool.not_false, closes_pot]
    open Classical in
    refine ⟨hwx, fun x => P x + if g x then 1 else 0, fun x hx => ?_⟩
    have same : ∀ x ∈ us ++ vs, (P x.t + if g x.t then 1 else 0) - (P x.f + if g x.f then 1 else 0) = x.s := fun x hx => by
      have h1 := hPu x hx
      have h2 := hg1 x hx
      by_cases h3 : g x.f
      · rw [if_pos h3, if_pos (h2.1 h3)]; omega
      · rw [if_neg h3, if_neg (fun h => h3 (h2.2 h))]; omega
    rcases List.mem_append.1 hx with h | h
    · exact same x (List.mem_append_left _ h)
    · rcases List.mem_cons.1 h with h | h
      · subst h
        simp only
        rw [if_pos hgt, if_neg hgf]; omega
      · exact same x (List.mem_append_right _ h)
  · rw [Bool.not_true]
    refine Bool.eq_false_iff.2 (fun hcx => ?_)
    obtain ⟨-, Q, hQ⟩ := closes_pot.1 hcx
    have key : ∀ i : Nat, i < N → Q i - P i = Q 0 - P 0 := fun i hi => by
      have := (whole_same hb hi (fun x => Q x - P x = Q 0 - P 0) (fun x hx => by
        have h1 := hPu x hx
        have h2 := hQ x (by simp at hx ⊢; rcases hx with h | h; exact .inl h; exact .inr (.inr h))
        constructor <;> intro _ <;> omega)).1 rfl
      exact this
    have h1 := key r.f.toNat (by omega)
    have h2 := key r.t.toNat (by omega)
    rw [show ((r.f.toNat : Nat) : Int) = r.f by omega] at h1
    rw [show ((r.t.toNat : Nat) : Int) = r.t by omega] at h2
    have h3 := hQ { r with s := r.s + 1 } (by simp)
    simp only at h3
    omega

/-! rises of heights added -/
section
variable {g : Rn → Rn} (hf : ∀ r, (g r).f = r.f) (ht : ∀ r, (g r).t = r.t)
include hf ht
omit hf ht in
theorem runOf_map {z : Int} (h0 : 0 ≤ z) (h1 : z < rs.length) : runOf (rs.map g) z = g (runOf rs z) := by
  have := runOf_at h0 h1
  unfold runOf at *
  rw [List.getElem?_map, this]; rfl
omit hf ht in
theorem sub_map (h : Asc rs.length T) : sub (rs.map g) T = (sub rs T).map g := by
  unfold sub
  rw [List.map_map]
  exact List.map_congr_left (fun z hz => by obtain ⟨a, b⟩ := h.rng z hz; exact runOf_map a b)
theorem ends_map {us : List Rn} : EndsOf us (us.map g) ∧ EndsOf (us.map g) us := by
  constructor
  · intro r hr
    have := Same.run (rs := us.map g) (r := g r) (List.mem_map.2 ⟨r, hr, rfl⟩)
    rwa [hf, ht] at this
  · intro r hr
    obtain ⟨r', hr', rfl⟩ := List.mem_map.1 hr
    rw [hf, ht]; exact Same.run hr'
theorem lab_map {us : List Rn} : lab N (us.map g) = lab N us := by
  funext x
  unfold lab
  rw [labs_ends (ends_map hf ht).1 (ends_map hf ht).2]
theorem firstT_map (hok : EndsIn N rs) : ∀ j : Nat, j ≤ rs.length → firstT N (rs.map g) j = firstT N rs j
  | 0, _ => rfl
  | j + 1, hj => by
    have ih := firstT_map hok j (by omega)
    have hr : rs[j]? = some rs[j] := List.getElem?_eq_getElem (by omega)
    have hr' : (rs.map g)[j]? = some (g rs[j]) := by rw [List.getElem?_map, hr]; rfl
    have ha : Asc rs.length (firstT N rs j) := by
      have := (firstT_is hok j (by omega)).asc
      exact ⟨fun z hz => by have := this.rng z hz; omega, this.up⟩
    by_cases he : lab N (sub rs (firstT N rs j)) rs[j].f = lab N (sub rs (firstT N rs j)) rs[j].t
    · rw [firstT_skip hr he, firstT_skip hr' (by rw [ih, sub_map ha, lab_map hf ht, hf, ht]; exact he), ih]
    · rw [firstT_take hr he, firstT_take hr' (by rw [ih, sub_map ha, lab_map hf ht, hf, ht]; exact he), ih]
theorem bg_map (h0 : 0 ≤ ix z) (h1 : ix z < rs.length) : bg (rs.map g) z = bg rs z ∧ en (rs.map g) z = en rs z := by
  unfold bg en; rw [runOf_map h0 h1, hf, ht]; exact ⟨rfl, rfl⟩
theorem chain_map : ∀ {L : List Int} {a : Int}, (∀ z ∈ L, 0 ≤ ix z ∧ ix z < rs.length) → (Chain (rs.map g) a L b ↔ Chain rs a L b)
  | [], a, _ => Iff.rfl
  | z :: L, a, h => by
    have := h z (by simp)
    obtain ⟨e1, e2⟩ := bg_map hf ht this.1 this.2
    simp only [Chain]
    rw [e1, e2, chain_map (fun z' h' => h z' (by simp [h']))]
theorem trail_map (h : Asc rs.length T) : Trail (rs.map g) T a L b ↔ Trail rs T a L b := by
  unfold Trail
  constructor
  · rintro ⟨h1, h2, h3⟩; exact ⟨h1, h2, (chain_map hf ht (fun z hz => h.rng _ (h1 z hz))).1 h3⟩
  · rintro ⟨h1, h2, h3⟩; exact ⟨h1, h2, (chain_map hf ht (fun z hz => h.rng _ (h1 z hz))).2 h3⟩
theorem wayT_map (h : Asc rs.length T) : wayT (rs.map g) T a b = wayT rs T a b := by
  have : (fun L => Trail (rs.map g) T a L b) = (fun L => Trail rs T a L b) := funext (fun L => propext (trail_map hf ht h))
  unfold wayT
  rw [this]
theorem loopT_map (hw : nWhole N rs = true) (hk : k < rs.length) : loopT N (rs.map g) k = loopT N rs k := by
  unfold loopT
  rw [List.length_map, firstT_map hf ht (nOk_ends (whole_iff.1 hw).1) _ (Nat.le_refl _), runOf_map (by omega) (by omega), hf, ht, wayT_map hf ht (first_tree hw).asc]
end
theorem lsum_shift {g : Rn → Rn} {P : Int → Int} (hg : ∀ r, (g r).s = r.s + P r.t - P r.f) (hf : ∀ r, (g r).f = r.f) (ht : ∀ r, (g r).t = r.t) : ∀ {L : List Int} {a : Int}, (∀ z ∈ L, 0 ≤ ix z ∧ ix z < rs.length) → Chain rs a L b → lsum (rs.map g) L = lsum rs L + P b - P a
  | [], a, _, h => by cases h; rw [lsum_nil, lsum_nil]; omega
  | z :: L, a, hz, ⟨h1, h2⟩ => by
    subst h1
    have h3 := hz z (by simp)
    rw [lsum_cons, lsum_cons, lsum_shift hg hf ht (fun z' h' => hz z' (by simp [h'])) h2]
    unfold er bg en
    rw [runOf_map h3.1 h3.2, hg]
    split <;> omega
/-- rises of heights added to all rises change no error -/
theorem errs_shift {g : Rn → Rn} {P : Int → Int} (hg : ∀ r, (g r).s = r.s + P r.t - P r.f) (hf : ∀ r, (g r).f = r.f) (ht : ∀ r, (g r).t = r.t) (hw : nWhole N rs = true) : errs N (rs.map g) = errs N rs := by
  have hF := firstT_map hf ht (nOk_ends (whole_iff.1 hw).1) rs.length (Nat.le_refl _)
  have key : ∀ j : Nat, j ≤ rs.length → errsTo N (rs.map g) j = errsTo N rs j := by
    intro j
    induction j with
    | zero => intro _; rfl
    | succ j ih =>
      intro hj
      have hl := loopT_is hw (k := j) (by omega)
      by_cases h : (j : Int) ∈ firstT N rs rs.length
      · rw [errsTo_in h, errsTo_in (by rw [List.length_map, hF]; exact h), ih (by omega)]
      · rw [errsTo_out h, errsTo_out (by rw [List.length_map, hF]; exact h), ih (by omega), loopT_map hf ht hw (by omega)]
        obtain ⟨c, hc⟩ := hl.loop
        rw [lsum_shift hg hf ht (fun z hz => ⟨(hl.run hz).1, (hl.run hz).2.1⟩) hc]
        congr 2; omega
  unfold errs
  rw [List.length_map, key _ (Nat.le_refl _)]
theorem whole_shift {g : Rn → Rn} (hf : ∀ r, (g r).f = r.f) (ht : ∀ r, (g r).t = r.t) (hw : nWhole N rs = true) (hn : nOk N (rs.map g) = true) : nWhole N (rs.map g) = true := whole_mono hn (ends_map hf ht).1 hw

/-! the search along a tree -/
/-- on from the end of a trail by another run than its last one: a longer trail -/
theorem trail_on {P : List Int} {s : Int} (h : IsTree N rs T) (hP : Trail rs T s P (bg rs z)) (hz : ix z ∈ T) (hl : ∀ y Q, P = Q ++ [y] → ix y ≠ ix z) : Trail rs T s (P ++ [z]) (en rs z) := by
  refine trail_append.2 ⟨_, hP, trail_one hz, fun y hy z' hz' e => ?_⟩
  simp at hz'; subst hz'
  obtain ⟨pre, post, rfl⟩ := List.append_of_mem hy
  obtain ⟨c, p1, p2, p3⟩ := trail_append.1 hP
  obtain ⟨q1, q2, q3, q4⟩ := trail_cons.1 p2
  rcases ix_same e with e2 | e2
  · subst e2
    rw [q2] at p2
    have := trail_closed h p2
    cases this
  · subst e2
    rw [bg_neg (ix_ne h.asc q1)] at q3
    have := trail_closed h q3
    subst this
    exact hl y pre rfl e
/-- a way begins with a run exactly if the way from its other end does not begin with it too -/
theorem way_head (h : IsTree N rs T) (hz : ix z ∈ T) (hb : ∃ L, Trail rs T (bg rs z) L b) : wayT rs T (bg rs z) b = z :: wayT rs T (en rs z) b ∨ ((∃ M, wayT rs T (en rs z) b = (-z) :: M) ∧ ∀ M, wayT rs T (bg rs z) b ≠ z :: M) := by
  have h0 := ix_ne h.asc hz
  have hw := wayT_is hb
  by_cases hh : ∃ M, wayT rs T (bg rs z) b = z :: M
  · obtain ⟨M, hM⟩ := hh
    left
    rw [hM] at hw ⊢
    obtain ⟨q1, q2, q3, q4⟩ := trail_cons.1 hw
    rw [wayT_of h q3]
  · right
    refine ⟨?_, fun M hM => hh ⟨M, hM⟩⟩
    obtain ⟨L, hL⟩ : ∃ L, wayT rs T (bg rs z) b = L := ⟨_, rfl⟩
    rw [hL] at hw
    refine ⟨L, wayT_of h ?_⟩
    refine trail_cons.2 ⟨by rw [ix_neg]; exact hz, bg_neg h0, by rw [en_neg h0]; exact hw, fun z' hz' e => ?_⟩
    rw [ix_neg] at e
    obtain ⟨pre, post, rfl⟩ := List.append_of_mem hz'
    obtain ⟨c, p1, p2, p3⟩ := trail_append.1 hw
    obtain ⟨q1, q2, q3, q4⟩ := trail_cons.1 p2
    rcases ix_same e.symm with e2 | e2
    · subst e2
      rw [← q2] at p1
      have := trail_closed h p1
      subst this
      exact hh ⟨post, by rw [hL]; rfl⟩
    · subst e2
      rw [bg_neg h0] at q2
      have hc : Trail rs T (bg rs z) (pre ++ [-z]) (bg rs z) := trail_append.2 ⟨c, p1, by have := trail_one (rs := rs) q1; rw [bg_neg h0, en_neg h0, q2] at this; exact this, fun y hy z' hz'' => p3 y hy z' (by simp at hz''; subst hz''; simp)⟩
      have := trail_closed h hc
      simp at this
end
end Go.Proofs.Ytimghdffmdcheaa
