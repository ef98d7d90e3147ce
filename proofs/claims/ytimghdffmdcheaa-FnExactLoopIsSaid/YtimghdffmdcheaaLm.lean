/-
  Loops of a net: numbers of runs one behind the other, trails along a tree (at most one from a node to another one, and there is one), what errors add up to. No function of the program is named.
-/
import Derived.Test.YtimghdffmdcheaaTw
namespace Go.Proofs.Ytimghdffmdcheaa
set_option linter.unusedVariables false

/-- the run that a number names, where it begins and where it ends -/
def ix (z : Int) : Int := (z.natAbs : Int) - 1
def bg (rs : List Rn) (z : Int) : Int := if z < 0 then (runOf rs (ix z)).t else (runOf rs (ix z)).f
def en (rs : List Rn) (z : Int) : Int := if z < 0 then (runOf rs (ix z)).f else (runOf rs (ix z)).t
/-- what a number adds to an error -/
def er (rs : List Rn) (z : Int) : Int := if z < 0 then -(runOf rs (ix z)).s else (runOf rs (ix z)).s
def lsum (rs : List Rn) (L : List Int) : Int := (L.map (er rs)).foldl (· + ·) 0
def Chain (rs : List Rn) : Int → List Int → Int → Prop
  | a, [], b => a = b
  | a, z :: L, b => bg rs z = a ∧ Chain rs (en rs z) L b
/-- numbers of runs of T, none twice, one behind the other -/
def Trail (rs : List Rn) (T : List Int) (a : Int) (L : List Int) (b : Int) : Prop := (∀ z ∈ L, ix z ∈ T) ∧ (L.map ix).Nodup ∧ Chain rs a L b
section
variable {N : Nat} {rs : List Rn} {T L M : List Int} {a b c z e : Int}
theorem ix_neg (z : Int) : ix (-z) = ix z := by unfold ix; rw [Int.natAbs_neg]
theorem ix_same {z z' : Int} (h : ix z = ix z') : z' = z ∨ z' = -z := by unfold ix at h; omega
theorem bg_neg (h : z ≠ 0) : bg rs (-z) = en rs z := by
  unfold bg en; rw [ix_neg]
  by_cases h0 : z < 0
  · rw [if_pos h0, if_neg (by omega)]
  · rw [if_neg h0, if_pos (by omega)]
theorem en_neg (h : z ≠ 0) : en rs (-z) = bg rs z := by
  unfold bg en; rw [ix_neg]
  by_cases h0 : z < 0
  · rw [if_pos h0, if_neg (by omega)]
  · rw [if_neg h0, if_pos (by omega)]
theorem er_neg (h : z ≠ 0) : er rs (-z) = -er rs z := by
  unfold er; rw [ix_neg]
  by_cases h0 : z < 0
  · rw [if_pos h0, if_neg (by omega)]; omega
  · rw [if_neg h0, if_pos (by omega)]
theorem chain_append : ∀ {L : List Int} {a : Int}, Chain rs a (L ++ M) b ↔ ∃ c, Chain rs a L c ∧ Chain rs c M b
  | [], a => by simp [Chain]
  | z :: L, a => by
    simp only [List.cons_append, Chain]
    constructor
    · rintro ⟨h1, h2⟩
      obtain ⟨c, h3, h4⟩ := chain_append.1 h2
      exact ⟨c, ⟨h1, h3⟩, h4⟩
    · rintro ⟨c, ⟨h1, h3⟩, h4⟩
      exact ⟨h1, chain_append.2 ⟨c, h3, h4⟩⟩
theorem trail_nil : Trail rs T a [] b ↔ a = b := by simp [Trail, Chain]
theorem trail_append {L M : List Int} : Trail rs T a (L ++ M) b ↔ ∃ c, Trail rs T a L c ∧ Trail rs T c M b ∧ ∀ z ∈ L, ∀ z' ∈ M, ix z ≠ ix z' := by
  unfold Trail
  rw [List.map_append, List.nodup_append, chain_append]
  constructor
  · rintro ⟨h1, ⟨h2, h3, h4⟩, c, h5, h6⟩
    exact ⟨c, ⟨fun z hz => h1 z (List.mem_append_left _ hz), h2, h5⟩, ⟨fun z hz => h1 z (List.mem_append_right _ hz), h3, h6⟩, fun z hz z' hz' => h4 _ (List.mem_map.2 ⟨z, hz, rfl⟩) _ (List.mem_map.2 ⟨z', hz', rfl⟩)⟩
  · rintro ⟨c, ⟨h1, h2, h5⟩, ⟨h1', h3, h6⟩, h4⟩
    refine ⟨fun z hz => (List.mem_append.1 hz).elim (h1 z) (h1' z), ⟨h2, h3, fun x hx y hy => ?_⟩, c, h5, h6⟩
    obtain ⟨z, hz, rfl⟩ := List.mem_map.1 hx
    obtain ⟨z', hz', rfl⟩ := List.mem_map.1 hy
    exact h4 z hz z' hz'
theorem trail_one (h : ix z ∈ T) : Trail rs T (bg rs z) [z] (en rs z) := ⟨by simpa using h, by simp, rfl, rfl⟩
theorem trail_cons : Trail rs T a (z :: L) b ↔ ix z ∈ T ∧ bg rs z = a ∧ Trail rs T (en rs z) L b ∧ ∀ z' ∈ L, ix z' ≠ ix z := by
  rw [show z :: L = [z] ++ L from rfl, trail_append]
  constructor
  · rintro ⟨c, ⟨h1, h2, h3, h4⟩, h5, h6⟩
    simp only [Chain] at h4
    subst h4
    exact ⟨h1 z (by simp), h3, h5, fun z' hz' e => h6 z (by simp) z' hz' e.symm⟩
  · rintro ⟨h1, rfl, h3, h4⟩
    exact ⟨_, trail_one h1, h3, fun x hx z' hz' e => by simp at hx; subst hx; exact h4 z' hz' e.symm⟩

/-- without a run of a tree its ends are told apart -/
theorem cut (h : IsTree N rs T) (he : e ∈ T) : ∃ g : Int → Prop, (∀ z : Int, ix z ∈ T → ix z ≠ e → (g (bg rs z) ↔ g (en rs z))) ∧ ∀ z : Int, ix z = e → ¬ (g (bg rs z) ↔ g (en rs z)) := by
  have ha : Asc rs.length (T.erase e) := ⟨fun z hz => h.asc.rng z (List.mem_of_mem_erase hz), h.asc.up.sublist List.erase_sublist⟩
  have hl := List.length_erase_of_mem he
  have hp : 0 < T.length := List.length_pos_of_mem he
  have hless := tree_less h (U := T.erase e) (by omega) (fun z hz => List.mem_of_mem_erase hz)
  have hN6 := (nOk_true h.ok).2.1
  have hg : ¬ Same (sub rs (T.erase e)) (runOf rs e).f (runOf rs e).t := fun hs => by
    have := whole_mono (us := sub rs T) (ha.sub_ok h.ok (by have := h.len; omega)) (fun r hr => by
      obtain ⟨y, hy, rfl⟩ := List.mem_map.1 hr
      by_cases hye : y = e
      · subst hye; exact hs
      · exact Same.run (List.mem_map.2 ⟨y, (List.mem_erase_of_ne hye).2 hy, rfl⟩)) h.whole
    rw [hless] at this; cases this
  have : ∃ g : Int → Prop, (∀ r ∈ sub rs (T.erase e), (g r.f ↔ g r.t)) ∧ ¬ (g (runOf rs e).f ↔ g (runOf rs e).t) := by
    refine Classical.byContradiction (fun hc => hg (fun g hr => ?_))
    exact Classical.byContradiction (fun hn => hc ⟨g, hr, hn⟩)
  obtain ⟨g, hg1, hg2⟩ := this
  refine ⟨g, fun z hz hne => ?_, fun z hz => ?_⟩
  · have := hg1 _ (List.mem_map.2 ⟨ix z, (List.mem_erase_of_ne hne).2 hz, rfl⟩)
    unfold bg en
    split
    · exact this.symm
    · exact this
  · subst hz
    unfold bg en
    split
    · exact fun hh => hg2 hh.symm
    · exact hg2
theorem chain_keep {g : Int → Prop} (hg : ∀ z : Int, ix z ∈ T → ix z ≠ e → (g (bg rs z) ↔ g (en rs z))) : ∀ {L : List Int} {a : Int}, (∀ z ∈ L, ix z ∈ T ∧ ix z ≠ e) → Chain rs a L b → (g a ↔ g b)
  | [], a, _, h => by cases h; rfl
  | z :: L, a, hz, ⟨h1, h2⟩ => by
    subst h1
    have := hz z (by simp)
    exact (hg z this.1 this.2).trans (chain_keep hg (fun z' h' => hz z' (by simp [h'])) h2)
/-- a trail that comes back is empty -/
theorem trail_closed (h : IsTree N rs T) (ht : Trail rs T a L a) : L = [] := by
  cases L with
  | nil => rfl
  | cons z M =>
    exfalso
    obtain ⟨h1, h2, h3, h4⟩ := trail_cons.1 ht
    obtain ⟨g, hg, hn⟩ := cut h h1
    refine hn z rfl ?_
    rw [h2]
    exact (chain_keep hg (fun z' hz' => ⟨h3.1 z' hz', h4 z' hz'⟩) h3.2.2).symm
theorem ix_ne {T : List Int} (h : Asc rs.length T) (hz : ix z ∈ T) : z ≠ 0 := fun e => by
  subst e
  have := (h.rng _ hz).1
  simp [ix] at this
theorem mem_ix {L : List Int} {e : Int} (h : e ∈ L.map ix) : ∃ pre z post, L = pre ++ z :: post ∧ ix z = e := by
  obtain ⟨z, hz, rfl⟩ := List.mem_map.1 h
  obtain ⟨pre, post, rfl⟩ := List.append_of_mem hz
  exact ⟨pre, z, post, rfl, rfl⟩
/-- at most one trail leads from a node to another one -/
theorem trail_unique (h : IsTree N rs T) : ∀ {L : List Int} {a : Int} {L' : List Int}, Trail rs T a L b → Trail rs T a L' b → L = L'
  | [], a, L', h1, h2 => by
    have e := trail_nil.1 h1
    subst e
    exact (trail_closed h h2).symm
  | z :: M, a, L', h1, h2 => by
    obtain ⟨k1, k2, k3, k4⟩ := trail_cons.1 h1
    obtain ⟨g, hg, hn⟩ := cut h k1
    have hM := chain_keep hg (fun z' hz' => ⟨k3.1 z' hz', k4 z' hz'⟩) k3.2.2
    have hab : ¬ (g a ↔ g b) := fun hh => hn z rfl (by rw [k2]; exact hh.trans hM.symm)
    have hin : ix z ∈ L'.map ix := Classical.byContradiction (fun hc => hab (chain_keep hg (fun z' hz' => ⟨h2.1 z' hz', fun e => hc (List.mem_map.2 ⟨z', hz', e⟩)⟩) h2.2.2))
    obtain ⟨pre, z', post, rfl, hz'⟩ := mem_ix hin
    obtain ⟨c, p1, p2, p3⟩ := trail_append.1 h2
    obtain ⟨q1, q2, q3, q4⟩ := trail_cons.1 p2
    have hac : g a ↔ g c := chain_keep hg (fun y hy => ⟨p1.1 y hy, fun e => p3 y hy z' (by simp) (by rw [e, hz'])⟩) p1.2.2
    have hzz : z' = z := by
      rcases ix_same hz'.symm with e | e
      · exact e
      · exfalso
        subst e
        rw [bg_neg (ix_ne h.asc k1)] at q2
        exact hn z rfl (by rw [k2, q2]; exact hac)
    subst hzz
    have hca : c = a := q2.symm.trans k2
    subst hca
    have := trail_closed h p1
    subst this
    rw [List.nil_append, trail_unique h k3 q3]
theorem trail_step (h : IsTree N rs T) (ht : Trail rs T a L (bg rs z)) (hz : ix z ∈ T) : ∃ L', Trail rs T a L' (en rs z) := by
  by_cases hin : ix z ∈ L.map ix
  · obtain ⟨pre, z', post, rfl, hz'⟩ := mem_ix hin
    obtain ⟨c, p1, p2, p3⟩ := trail_append.1 ht
    rcases ix_same hz'.symm with e | e
    · subst e
      obtain ⟨q1, q2, q3, q4⟩ := trail_cons.1 p2
      rw [← q2] at p2
      have := trail_closed h p2
      cases this
    · subst e
      obtain ⟨q1, q2, q3, q4⟩ := trail_cons.1 p2
      rw [bg_neg (ix_ne h.asc hz)] at q2
      exact ⟨pre, by rw [q2]; exact p1⟩
  · exact ⟨L ++ [z], trail_append.2 ⟨_, ht, trail_one hz, fun y hy z' hz' e => by simp at hz'; subst hz'; exact hin (List.mem_map.2 ⟨y, hy, e⟩)⟩⟩
/-- and one does -/
theorem trail_some (h : IsTree N rs T) {i j : Nat} (hi : i < N) (hj : j < N) : ∃ L, Trail rs T (i : Int) L (j : Int) := by
  have hs : Same (sub rs T) i j := (whole_same h.whole hi).symm.trans (whole_same h.whole hj)
  refine (hs (fun x => ∃ L, Trail rs T (i : Int) L x) (fun r hr => ?_)).1 ⟨[], trail_nil.2 rfl⟩
  obtain ⟨y, hy, rfl⟩ := List.mem_map.1 hr
  have hy0 := (h.asc.rng y hy).1
  have e1 : ix (y + 1) = y := by unfold ix; omega
  have e2 : ix (-(y + 1)) = y := by rw [ix_neg]; exact e1
  have b1 : bg rs (y + 1) = (runOf rs y).f := by unfold bg; rw [if_neg (by omega), e1]
  have b2 : en rs (y + 1) = (runOf rs y).t := by unfold en; rw [if_neg (by omega), e1]
  constructor
  · rintro ⟨L, hL⟩
    rw [← b1] at hL
    rw [← b2]
    exact trail_step h hL (by rw [e1]; exact hy)
  · rintro ⟨L, hL⟩
    rw [← b2, ← bg_neg (by omega : y + 1 ≠ 0)] at hL
    rw [← b1, ← en_neg (by omega : y + 1 ≠ 0)]
    exact trail_step h hL (by rw [e2]; exact hy)
theorem lsum_nil : lsum rs [] = 0 := rfl
theorem foldl_sum : ∀ (L : List Int) (s : Int), L.foldl (· + ·) s = s + L.foldl (· + ·) 0
  | [], s => by simp
  | x :: L, s => by rw [List.foldl_cons, List.foldl_cons, foldl_sum L (s + x), foldl_sum L (0 + x)]; omega
theorem lsum_cons : lsum rs (z :: L) = er rs z + lsum rs L := by unfold lsum; rw [List.map_cons, List.foldl_cons, foldl_sum]; omega
theorem lsum_append : ∀ {L : List Int}, lsum rs (L ++ M) = lsum rs L + lsum rs M
  | [] => by rw [List.nil_append, lsum_nil]; omega
  | z :: L => by rw [List.cons_append, lsum_cons, lsum_cons, lsum_append]; omega
/-- along heights that fit what is added up is a difference -/
theorem lsum_pot {P : Int → Int} : ∀ {L : List Int} {a : Int}, (∀ z ∈ L, P (runOf rs (ix z)).t - P (runOf rs (ix z)).f = (runOf rs (ix z)).s) → Chain rs a L b → lsum rs L = P b - P a
  | [], a, _, h => by cases h; rw [lsum_nil]; omega
  | z :: L, a, hP, ⟨h1, h2⟩ => by
    subst h1
    have h3 := hP z (by simp)
    rw [lsum_cons, lsum_pot (fun z' h' => hP z' (by simp [h'])) h2]
    unfold er bg en
    split <;> omega
/-- the loop in the other direction -/
def back (L : List Int) : List Int := (L.map (fun z => -z)).reverse
theorem back_cons : back (z :: L) = back L ++ [-z] := by simp [back]
theorem back_len : (back L).length = L.length := by simp [back]
theorem back_back : back (back L) = L := by
  unfold back
  rw [List.map_reverse, List.reverse_reverse, List.map_map]
  simp [Function.comp_def]
theorem chain_back : ∀ {L : List Int} {a : Int}, (∀ z ∈ L, z ≠ 0) → Chain rs a L b → Chain rs b (back L) a
  | [], a, _, h => by cases h; rfl
  | z :: L, a, h0, ⟨h1, h2⟩ => by
    rw [back_cons]
    refine chain_append.2 ⟨_, chain_back (fun z' h' => h0 z' (by simp [h'])) h2, ?_⟩
    have hz := h0 z (by simp)
    exact ⟨bg_neg hz, by rw [en_neg hz]; exact h1⟩
theorem lsum_back : ∀ {L : List Int}, (∀ z ∈ L, z ≠ 0) → lsum rs (back L) = -lsum rs L
  | [], _ => by simp [back, lsum_nil]
  | z :: L, h0 => by
    rw [back_cons, lsum_append, lsum_back (fun z' h' => h0 z' (by simp [h'])), lsum_cons, lsum_cons, lsum_nil, er_neg (h0 z (by simp))]
    omega
end
end Go.Proofs.Ytimghdffmdcheaa
