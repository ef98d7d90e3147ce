/-
  Loops of a net: numbers of runs one behind the other, trails along a tree (at most one from a node to another one, and there is one), what errors add up to. No function of the program is named.
  Loops of a net: what a loop is, told by its numbers one behind the other; begun elsewhere, turned, both together; the loop of a run beside the first tree, and the errors of all. No function of the program is named.
  Loops of a net: what closes has heights; a rise changed; rises of heights added; and the search for a way along a tree from run to run. No function of the program is named.
  A search along a tree with a stack: which runs are left, what the stack holds, and why it ends with the way. No function of the program is named.
-/
import Derived.Test.YtoaomjchaihkaaaGreatDoorZi
namespace Go.Proofs.YtoaomjchaihkaaaGreatDoor
set_option linter.unusedVariables false

/-- the run that a number names, where it begins and where it ends -/
def ix (z : Int) : Int := (z.natAbs : Int) - 1
def bg (rs : List Rn) (z : Int) : Int := if z < 0 then (runOf rs (ix z)).t else (runOf rs (ix z)).f
def en (rs : List Rn) (z : Int) : Int := if z < 0 then (runOf rs (ix z)).f else (runOf rs (ix z)).t
/-- what a number adds to an error -/
def er (rs : List Rn) (z : Int) : Int := if z < 0 then -(runOf rs (ix z)).s else (runOf rs (ix z)).s
def lsum (rs : List Rn) (L : List Int) : Int := (L.map (er rs)).foldl (· + ·) 0
def Chain (rs : List Rn) : Int → List Int → Int → Prop
  | a, [], b => a = b
  | a, z :: L, b => bg rs z = a ∧ Chain rs (en rs z) L b
/-- numbers of runs of T, none twice, one behind the other -/
def Trail (rs : List Rn) (T : List Int) (a : Int) (L : List Int) (b : Int) : Prop := (∀ z ∈ L, ix z ∈ T) ∧ (L.map ix).Nodup ∧ Chain rs a L b
section
variable {N : Nat} {rs : List Rn} {T L M : List Int} {a b c z e : Int}
theorem ix_neg (z : Int) : ix (-z) = ix z := by unfold ix; rw [Int.natAbs_neg]
theorem ix_same {z z' : Int} (h : ix z = ix z') : z' = z ∨ z' = -z := by unfold ix at h; omega
theorem bg_neg (h : z ≠ 0) : bg rs (-z) = en rs z := by
  unfold bg en; rw [ix_neg]
  by_cases h0 : z < 0
  · rw [if_pos h0, if_neg (by omega)]
  · rw [if_neg h0, if_pos (by omega)]
theorem en_neg (h : z ≠ 0) : en rs (-z) = bg rs z := by
  unfold bg en; rw [ix_neg]
  by_cases h0 : z < 0
  · rw [if_pos h0, if_neg (by omega)]
  · rw [if_neg h0, if_pos (by omega)]
theorem er_neg (h : z ≠ 0) : er rs (-z) = -er rs z := by
  unfold er; rw [ix_neg]
  by_cases h0 : z < 0
  · rw [if_pos h0, if_neg (by omega)]; omega
  · rw [if_neg h0, if_pos (by omega)]
theorem chain_append : ∀ {L : List Int} {a : Int}, Chain rs a (L ++ M) b ↔ ∃ c, Chain rs a L c ∧ Chain rs c M b
  | [], a => by simp [Chain]
  | z :: L, a => by
    simp only [List.cons_append, Chain]
    constructor
    · rintro ⟨h1, h2⟩
      obtain ⟨c, h3, h4⟩ := chain_append.1 h2
      exact ⟨c, ⟨h1, h3⟩, h4⟩
    · rintro ⟨c, ⟨h1, h3⟩, h4⟩
      exact ⟨h1, chain_append.2 ⟨c, h3, h4⟩⟩
theorem trail_nil : Trail rs T a [] b ↔ a = b := by simp [Trail, Chain]
theorem trail_append {L M : List Int} : Trail rs T a (L ++ M) b ↔ ∃ c, Trail rs T a L c ∧ Trail rs T c M b ∧ ∀ z ∈ L, ∀ z' ∈ M, ix z ≠ ix z' := by
  unfold Trail
  rw [List.map_append, List.nodup_append, chain_append]
  constructor
  · rintro ⟨h1, ⟨h2, h3, h4⟩, c, h5, h6⟩
    exact ⟨c, ⟨fun z hz => h1 z (List.mem_append_left _ hz), h2, h5⟩, ⟨fun z hz => h1 z (List.mem_append_right _ hz), h3, h6⟩, fun z hz z' hz' => h4 _ (List.mem_map.2 ⟨z, hz, rfl⟩) _ (List.mem_map.2 ⟨z', hz', rfl⟩)⟩
  · rintro ⟨c, ⟨h1, h2, h5⟩, ⟨h1', h3, h6⟩, h4⟩
    refine ⟨fun z hz => (List.mem_append.1 hz).elim (h1 z) (h1' z), ⟨h2, h3, fun x hx y hy => ?_⟩, c, h5, h6⟩
    obtain ⟨z, hz, rfl⟩ := List.mem_map.1 hx
    obtain ⟨z', hz', rfl⟩ := List.mem_map.1 hy
    exact h4 z hz z' hz'
theorem trail_one (h : ix z ∈ T) : Trail rs T (bg rs z) [z] (en rs z) := ⟨by simpa using h, by simp, rfl, rfl⟩
theorem trail_cons : Trail rs T a (z :: L) b ↔ ix z ∈ T ∧ bg rs z = a ∧ Trail rs T (en rs z) L b ∧ ∀ z' ∈ L, ix z' ≠ ix z := by
  rw [show z :: L = [z] ++ L from rfl, trail_append]
  constructor
  · rintro ⟨c, ⟨h1, h2, h3, h4⟩, h5, h6⟩
    simp only [Chain] at h4
    subst h4
    exact ⟨h1 z (by simp), h3, h5, fun z' hz' e => h6 z (by simp) z' hz' e.symm⟩
  · rintro ⟨h1, rfl, h3, h4⟩
    exact ⟨_, trail_one h1, h3, fun x hx z' hz' e => by simp at hx; subst hx; exact h4 z' hz' e.symm⟩

/-- without a run of a tree its ends are told apart -/
theorem cut (h : IsTree N rs T) (he : e ∈ T) : ∃ g : Int → Prop, (∀ z : Int, ix z ∈ T → ix z ≠ e → (g (bg rs z) ↔ g (en rs z))) ∧ ∀ z : Int, ix z = e → ¬ (g (bg rs z) ↔ g (en rs z)) := by
  have ha : Asc rs.length (T.erase e) := ⟨fun z hz => h.asc.rng z (List.mem_of_mem_erase hz), h.asc.up.sublist List.erase_sublist⟩
  have hl := List.length_erase_of_mem he
  have hp : 0 < T.length := List.length_pos_of_mem he
  have hless := tree_less h (U := T.erase e) (by omega) (fun z hz => List.mem_of_mem_erase hz)
  have hN6 := (nOk_true h.ok).2.1
  have hg : ¬ Same (sub rs (T.erase e)) (runOf rs e).f (runOf rs e).t := fun hs => by
    have := whole_mono (us := sub rs T) (ha.sub_ok h.ok (by have := h.len; omega)) (fun r hr => by
      obtain ⟨y, hy, rfl⟩ := List.mem_map.1 hr
      by_cases hye : y = e
      · subst hye; exact hs
      · exact Same.run (List.mem_map.2 ⟨y, (List.mem_erase_of_ne hye).2 hy, rfl⟩)) h.whole
    rw [hless] at this; cases this
  have : ∃ g : Int → Prop, (∀ r ∈ sub rs (T.erase e), (g r.f ↔ g r.t)) ∧ ¬ (g (runOf rs e).f ↔ g (runOf rs e).t) := by
    refine Classical.byContradiction (fun hc => hg (fun g hr => ?_))
    exact Classical.byContradiction (fun hn => hc ⟨g, hr, hn⟩)
  obtain ⟨g, hg1, hg2⟩ := this
  refine ⟨g, fun z hz hne => ?_, fun z hz => ?_⟩
  · have := hg1 _ (List.mem_map.2 ⟨ix z, (List.mem_erase_of_ne hne).2 hz, rfl⟩)
    unfold bg en
    split
    · exact this.symm
    · exact this
  · subst hz
    unfold bg en
    split
    · exact fun hh => hg2 hh.symm
    · exact hg2
theorem chain_keep {g : Int → Prop} (hg : ∀ z : Int, ix z ∈ T → ix z ≠ e → (g (bg rs z) ↔ g (en rs z))) : ∀ {L : List Int} {a : Int}, (∀ z ∈ L, ix z ∈ T ∧ ix z ≠ e) → Chain rs a L b → (g a ↔ g b)
  | [], a, _, h => by cases h; rfl
  | z :: L, a, hz, ⟨h1, h2⟩ => by
    subst h1
    have := hz z (by simp)
    exact (hg z this.1 this.2).trans (chain_keep hg (fun z' h' => hz z' (by simp [h'])) h2)
/-- a trail that comes back is empty -/
theorem trail_closed (h : IsTree N rs T) (ht : Trail rs T a L a) : L = [] := by
  cases L with
  | nil => rfl
  | cons z M =>
    exfalso
    obtain ⟨h1, h2, h3, h4⟩ := trail_cons.1 ht
    obtain ⟨g, hg, hn⟩ := cut h h1
    refine hn z rfl ?_
    rw [h2]
    exact (chain_keep hg (fun z' hz' => ⟨h3.1 z' hz', h4 z' hz'⟩) h3.2.2).symm
theorem ix_ne {T : List Int} (h : Asc rs.length T) (hz : ix z ∈ T) : z ≠ 0 := fun e => by
  subst e
  have := (h.rng _ hz).1
  simp [ix] at this
theorem mem_ix {L : List Int} {e : Int} (h : e ∈ L.map ix) : ∃ pre z post, L = pre ++ z :: post ∧ ix z = e := by
  obtain ⟨z, hz, rfl⟩ := List.mem_map.1 h
  obtain ⟨pre, post, rfl⟩ := List.append_of_mem hz
  exact ⟨pre, z, post, rfl, rfl⟩
/-- at most one trail leads from a node to another one -/
theorem trail_unique (h : IsTree N rs T) : ∀ {L : List Int} {a : Int} {L' : List Int}, Trail rs T a L b → Trail rs T a L' b → L = L'
  | [], a, L', h1, h2 => by
    have e := trail_nil.1 h1
    subst e
    exact (trail_closed h h2).symm
  | z :: M, a, L', h1, h2 => by
    obtain ⟨k1, k2, k3, k4⟩ := trail_cons.1 h1
    obtain ⟨g, hg, hn⟩ := cut h k1
    have hM := chain_keep hg (fun z' hz' => ⟨k3.1 z' hz', k4 z' hz'⟩) k3.2.2
    have hab : ¬ (g a ↔ g b) := fun hh => hn z rfl (by rw [k2]; exact hh.trans hM.symm)
    have hin : ix z ∈ L'.map ix := Classical.byContradiction (fun hc => hab (chain_keep hg (fun z' hz' => ⟨h2.1 z' hz', fun e => hc (List.mem_map.2 ⟨z', hz', e⟩)⟩) h2.2.2))
    obtain ⟨pre, z', post, rfl, hz'⟩ := mem_ix hin
    obtain ⟨c, p1, p2, p3⟩ := trail_append.1 h2
    obtain ⟨q1, q2, q3, q4⟩ := trail_cons.1 p2
    have hac : g a ↔ g c := chain_keep hg (fun y hy => ⟨p1.1 y hy, fun e => p3 y hy z' (by simp) (by rw [e, hz'])⟩) p1.2.2
    have hzz : z' = z := by
      rcases ix_same hz'.symm with e | e
      · exact e
      · exfalso
        subst e
        rw [bg_neg (ix_ne h.asc k1)] at q2
        exact hn z rfl (by rw [k2, q2]; exact hac)
    subst hzz
    have hca : c = a := q2.symm.trans k2
    subst hca
    have := trail_closed h p1
    subst this
    rw [List.nil_append, trail_unique h k3 q3]
theorem trail_step (h : IsTree N rs T) (ht : Trail rs T a L (bg rs z)) (hz : ix z ∈ T) : ∃ L', Trail rs T a L' (en rs z) := by
  by_cases hin : ix z ∈ L.map ix
  · obtain ⟨pre, z', post, rfl, hz'⟩ := mem_ix hin
    obtain ⟨c, p1, p2, p3⟩ := trail_append.1 ht
    rcases ix_same hz'.symm with e | e
    · subst e
      obtain ⟨q1, q2, q3, q4⟩ := trail_cons.1 p2
      rw [← q2] at p2
      have := trail_closed h p2
      cases this
    · subst e
      obtain ⟨q1, q2, q3, q4⟩ := trail_cons.1 p2
      rw [bg_neg (ix_ne h.asc hz)] at q2
      exact ⟨pre, by rw [q2]; exact p1⟩
  · exact ⟨L ++ [z], trail_append.2 ⟨_, ht, trail_one hz, fun y hy z' hz' e => by simp at hz'; subst hz'; exact hin (List.mem_map.2 ⟨y, hy, e⟩)⟩⟩
/-- and one does -/
theorem trail_some (h : IsTree N rs T) {i j : Nat} (hi : i < N) (hj : j < N) : ∃ L, Trail rs T (i : Int) L (j : Int) := by
  have hs : Same (sub rs T) i j := (whole_same h.whole hi).symm.trans (whole_same h.whole hj)
  refine (hs (fun x => ∃ L, Trail rs T (i : Int) L x) (fun r hr => ?_)).1 ⟨[], trail_nil.2 rfl⟩
  obtain ⟨y, hy, rfl⟩ := List.mem_map.1 hr
  have hy0 := (h.asc.rng y hy).1
  have e1 : ix (y + 1) = y := by unfold ix; omega
  have e2 : ix (-(y + 1)) = y := by rw [ix_neg]; exact e1
  have b1 : bg rs (y + 1) = (runOf rs y).f := by unfold bg; rw [if_neg (by omega), e1]
  have b2 : en rs (y + 1) = (runOf rs y).t := by unfold en; rw [if_neg (by omega), e1]
  constructor
  · rintro ⟨L, hL⟩
    rw [← b1] at hL
    rw [← b2]
    exact trail_step h hL (by rw [e1]; exact hy)
  · rintro ⟨L, hL⟩
    rw [← b2, ← bg_neg (by omega : y + 1 ≠ 0)] at hL
    rw [← b1, ← en_neg (by omega : y + 1 ≠ 0)]
    exact trail_step h hL (by rw [e2]; exact hy)
theorem lsum_nil : lsum rs [] = 0 := rfl
theorem foldl_sum : ∀ (L : List Int) (s : Int), L.foldl (· + ·) s = s + L.foldl (· + ·) 0
  | [], s => by simp
  | x :: L, s => by rw [List.foldl_cons, List.foldl_cons, foldl_sum L (s + x), foldl_sum L (0 + x)]; omega
theorem lsum_cons : lsum rs (z :: L) = er rs z + lsum rs L := by unfold lsum; rw [List.map_cons, List.foldl_cons, foldl_sum]; omega
theorem lsum_append : ∀ {L : List Int}, lsum rs (L ++ M) = lsum rs L + lsum rs M
  | [] => by rw [List.nil_append, lsum_nil]; omega
  | z :: L => by rw [List.cons_append, lsum_cons, lsum_cons, lsum_append]; omega
/-- along heights that fit what is added up is a difference -/
theorem lsum_pot {P : Int → Int} : ∀ {L : List Int} {a : Int}, (∀ z ∈ L, P (runOf rs (ix z)).t - P (runOf rs (ix z)).f = (runOf rs (ix z)).s) → Chain rs a L b → lsum rs L = P b - P a
  | [], a, _, h => by cases h; rw [lsum_nil]; omega
  | z :: L, a, hP, ⟨h1, h2⟩ => by
    subst h1
    have h3 := hP z (by simp)
    rw [lsum_cons, lsum_pot (fun z' h' => hP z' (by simp [h'])) h2]
    unfold er bg en
    split <;> omega
/-- the loop in the other direction -/
def back (L : List Int) : List Int := (L.map (fun z => -z)).reverse
theorem back_cons : back (z :: L) = back L ++ [-z] := by simp [back]
theorem back_len : (back L).length = L.length := by simp [back]
theorem back_back : back (back L) = L := by
  unfold back
  rw [List.map_reverse, List.reverse_reverse, List.map_map]
  simp [Function.comp_def]
theorem chain_back : ∀ {L : List Int} {a : Int}, (∀ z ∈ L, z ≠ 0) → Chain rs a L b → Chain rs b (back L) a
  | [], a, _, h => by cases h; rfl
  | z :: L, a, h0, ⟨h1, h2⟩ => by
    rw [back_cons]
    refine chain_append.2 ⟨_, chain_back (fun z' h' => h0 z' (by simp [h'])) h2, ?_⟩
    have hz := h0 z (by simp)
    exact ⟨bg_neg hz, by rw [en_neg hz]; exact h1⟩
theorem lsum_back : ∀ {L : List Int}, (∀ z ∈ L, z ≠ 0) → lsum rs (back L) = -lsum rs L
  | [], _ => by simp [back, lsum_nil]
  | z :: L, h0 => by
    rw [back_cons, lsum_append, lsum_back (fun z' h' => h0 z' (by simp [h'])), lsum_cons, lsum_cons, lsum_nil, er_neg (h0 z (by simp))]
    omega
end
end Go.Proofs.YtoaomjchaihkaaaGreatDoor
namespace Go.Proofs.YtoaomjchaihkaaaGreatDoor
set_option linter.unusedVariables false

structure IsL (n : Int) (rs : List Rn) (L : List Int) : Prop where
  ok : nOk n rs = true
  one : 1 ≤ L.length
  most : L.length ≤ 12
  rng : ∀ z ∈ L, z ≠ 0 ∧ -(rs.length : Int) ≤ z ∧ z ≤ rs.length
  loop : ∃ c, Chain rs c L c
noncomputable def isL (n : Int) (rs : List Rn) (L : List Int) : Bool := open Classical in decide (IsL n rs L)
section
variable {N : Nat} {n : Int} {rs : List Rn} {T L M A B : List Int} {a b c z e : Int} {k : Nat}
theorem isL_true : isL n rs L = true ↔ IsL n rs L := by unfold isL; simp
theorem isL_false : isL n rs L = false ↔ ¬ IsL n rs L := by unfold isL; simp
theorem chain_iff : ∀ {M : List Int} {z a : Int}, Chain rs a (z :: M) b ↔ bg rs z = a ∧ (∀ (i : Nat) (x y : Int), (z :: M)[i]? = some x → (z :: M)[i + 1]? = some y → en rs x = bg rs y) ∧ ∀ x, (z :: M)[M.length]? = some x → en rs x = b
  | [], z, a => by simp [Chain]
  | y :: M, z, a => by
    rw [Chain, chain_iff]
    constructor
    · rintro ⟨h1, h2, h3, h4⟩
      refine ⟨h1, fun i x y' hx hy => ?_, fun x hx => h4 x (by simpa using hx)⟩
      cases i with
      | zero => simp at hx hy; subst hx; subst hy; exact h2.symm
      | succ i => exact h3 i x y' (by simpa using hx) (by simpa using hy)
    · rintro ⟨h1, h3, h4⟩
      exact ⟨h1, (h3 0 z y rfl rfl).symm, fun i x y' hx hy => h3 (i + 1) x y' (by simpa using hx) (by simpa using hy), fun x hx => h4 x (by simpa using hx)⟩
/-- each number begins where the one ahead ends, the first one where the last one does -/
theorem loop_at (h : 0 < L.length) : (∃ c, Chain rs c L c) ↔ ∀ (i : Nat) (x y : Int), L[i]? = some x → L[(i + 1) % L.length]? = some y → en rs x = bg rs y := by
  cases L with
  | nil => simp at h
  | cons z M =>
    constructor
    · rintro ⟨c, hc⟩ i x y hx hy
      obtain ⟨h1, h2, h3⟩ := chain_iff.1 hc
      have hi := (List.getElem?_eq_some_iff.1 hx).1
      by_cases hl : i + 1 < (z :: M).length
      · rw [Nat.mod_eq_of_lt hl] at hy
        exact h2 i x y hx hy
      · have e : i + 1 = (z :: M).length := by omega
        rw [e, Nat.mod_self] at hy
        simp at hy; subst hy
        have e2 : i = M.length := by simp at e; omega
        subst e2
        rw [h1]; exact h3 x hx
    · intro hh
      refine ⟨bg rs z, chain_iff.2 ⟨rfl, fun i x y hx hy => ?_, fun x hx => ?_⟩⟩
      · have hi := (List.getElem?_eq_some_iff.1 hy).1
        exact hh i x y hx (by rw [Nat.mod_eq_of_lt hi]; exact hy)
      · exact hh M.length x z hx (by rw [show M.length + 1 = (z :: M).length from rfl, Nat.mod_self]; rfl)
theorem isL_rot (h : IsL n rs (A ++ B)) : IsL n rs (B ++ A) := by
  obtain ⟨h1, h2, h3, h4, c, h5⟩ := h
  obtain ⟨d, h6, h7⟩ := chain_append.1 h5
  exact ⟨h1, by simp at h2 ⊢; omega, by simp at h3 ⊢; omega, fun z hz => h4 z (by simp at hz ⊢; exact hz.symm), d, chain_append.2 ⟨c, h7, h6⟩⟩
theorem lsum_rot : lsum rs (B ++ A) = lsum rs (A ++ B) := by rw [lsum_append, lsum_append]; omega
theorem mem_back : z ∈ back L ↔ -z ∈ L := by
  unfold back
  rw [List.mem_reverse, List.mem_map]
  constructor
  · rintro ⟨y, hy, rfl⟩; simpa using hy
  · intro h; exact ⟨-z, h, by omega⟩
theorem isL_back (h : IsL n rs L) : IsL n rs (back L) := by
  obtain ⟨h1, h2, h3, h4, c, h5⟩ := h
  exact ⟨h1, by rw [back_len]; exact h2, by rw [back_len]; exact h3, fun z hz => by have := h4 _ (mem_back.1 hz); omega, c, chain_back (fun z hz => (h4 z hz).1) h5⟩
theorem IsL.back_sum (h : IsL n rs L) : lsum rs (back L) = -lsum rs L := lsum_back (fun z hz => (h.rng z hz).1)
/-- a loop and the same turned, behind each other -/
theorem isL_both (h : IsL n rs L) (hl : L.length + L.length ≤ 12) : IsL n rs (L ++ back L) ∧ lsum rs (L ++ back L) = 0 := by
  have hb := h.back_sum
  have h' := isL_back h
  obtain ⟨h1, h2, h3, h4, c, h5⟩ := h
  exact ⟨⟨h1, by simp; omega, by rw [List.length_append, back_len]; exact hl, fun z hz => (List.mem_append.1 hz).elim (h4 z) (h'.rng z), c, chain_append.2 ⟨c, h5, chain_back (fun z hz => (h4 z hz).1) h5⟩⟩, by rw [lsum_append, hb]; omega⟩
/-- which runs a loop names -/
theorem IsL.run (h : IsL n rs L) (hz : z ∈ L) : 0 ≤ ix z ∧ ix z < rs.length ∧ runOf rs (ix z) ∈ rs := by
  obtain ⟨a, b, c⟩ := h.rng z hz
  have h0 : 0 ≤ ix z := by unfold ix; omega
  have h1 : ix z < rs.length := by unfold ix; omega
  exact ⟨h0, h1, List.mem_of_getElem? (runOf_at h0 h1)⟩
/-- with the rises of heights no loop has an error -/
theorem IsL.flat {P : Int → Int} (h : IsL n rs L) (hP : ∀ r ∈ rs, P r.t - P r.f = r.s) : lsum rs L = 0 := by
  obtain ⟨c, hc⟩ := h.loop
  rw [lsum_pot (P := P) (fun z hz => hP _ (h.run hz).2.2) hc]; omega
theorem trail_len (ht : Trail rs T a L b) : L.length ≤ T.length := by
  have := ht.2.1.length_le_of_subset (l₂ := T) (fun x hx => by obtain ⟨z, hz, rfl⟩ := List.mem_map.1 hx; exact ht.1 z hz)
  simpa using this

/-! the loop of a run -/
noncomputable def chosen (p : List Int → Prop) : List Int := open Classical in if h : ∃ L, p L then Classical.choose h else []
noncomputable def wayT (rs : List Rn) (T : List Int) (a b : Int) : List Int := chosen (fun L => Trail rs T a L b)
theorem wayT_is (h : ∃ L, Trail rs T a L b) : Trail rs T a (wayT rs T a b) b := by unfold wayT chosen; rw [dif_pos h]; exact Classical.choose_spec h
theorem wayT_of (ht : IsTree N rs T) (h : Trail rs T a L b) : wayT rs T a b = L := trail_unique ht (wayT_is ⟨L, h⟩) h
noncomputable def loopT (N : Nat) (rs : List Rn) (k : Nat) : List Int := ((k : Int) + 1) :: wayT rs (firstT N rs rs.length) (runOf rs k).t (runOf rs k).f
theorem way_ends (hw : nWhole N rs = true) (ht : IsTree N rs T) (hk : k < rs.length) : Trail rs T (runOf rs k).t (wayT rs T (runOf rs k).t (runOf rs k).f) (runOf rs k).f := by
  have hr := List.mem_of_getElem? (runOf_at (rs := rs) (z := (k : Int)) (by omega) (by omega))
  obtain ⟨a, b, c, d⟩ := nOk_ends (whole_iff.1 hw).1 _ hr
  have := trail_some ht (i := (runOf rs k).t.toNat) (j := (runOf rs k).f.toNat) (by omega) (by omega)
  rw [show (((runOf rs k).t.toNat : Nat) : Int) = (runOf rs k).t by omega, show (((runOf rs k).f.toNat : Nat) : Int) = (runOf rs k).f by omega] at this
  exact wayT_is this
theorem ix_up (k : Nat) : ix ((k : Int) + 1) = k := by unfold ix; omega
theorem bg_up (k : Nat) : bg rs ((k : Int) + 1) = (runOf rs k).f := by unfold bg; rw [if_neg (by omega), ix_up]
theorem en_up (k : Nat) : en rs ((k : Int) + 1) = (runOf rs k).t := by unfold en; rw [if_neg (by omega), ix_up]
theorem er_up (k : Nat) : er rs ((k : Int) + 1) = (runOf rs k).s := by unfold er; rw [if_neg (by omega), ix_up]
theorem loopT_is (hw : nWhole N rs = true) (hk : k < rs.length) : IsL N rs (loopT N rs k) := by
  have ht := first_tree hw
  have h := way_ends hw ht hk
  have hl := trail_len h
  have hN := (nOk_true ht.ok).2.1
  have := ht.len
  refine ⟨ht.ok, by simp [loopT], by simp [loopT]; omega, fun z hz => ?_, (runOf rs k).f, ?_⟩
  · rcases List.mem_cons.1 hz with rfl | hz
    · omega
    · have a := h.1 z hz
      have b := ht.asc.rng _ a
      have c := ix_ne ht.asc a
      unfold ix at b
      omega
  · refine ⟨bg_up k, ?_⟩
    rw [en_up]; exact h.2.2
/-- no run is twice in it, and all but the first one are in the tree -/
theorem loopT_runs (hw : nWhole N rs = true) (hk : k < rs.length) (hk' : (k : Int) ∉ firstT N rs rs.length) : ((loopT N rs k).map ix).Nodup ∧ ∀ (i : Nat) (z : Int), (loopT N rs k)[i]? = some z → (ix z ∈ firstT N rs rs.length ↔ 0 < i) := by
  have h := way_ends hw (first_tree hw) hk
  constructor
  · unfold loopT
    rw [List.map_cons, List.nodup_cons, ix_up]
    refine ⟨fun hc => hk' ?_, h.2.1⟩
    obtain ⟨z, hz, e⟩ := List.mem_map.1 hc
    rw [← e]; exact h.1 z hz
  · intro i z hz
    cases i with
    | zero =>
      simp [loopT] at hz; subst hz; rw [ix_up]
      exact ⟨fun hc => absurd hc hk', fun hc => by omega⟩
    | succ i =>
      simp [loopT] at hz
      exact ⟨fun _ => by omega, fun _ => h.1 z (List.mem_of_getElem? hz)⟩
theorem loopT_sum {H : List Int} (hw : nWhole N rs = true) (hk : k < rs.length) (hH : IsHt N (sub rs (firstT N rs rs.length)) H) : lsum rs (loopT N rs k) = (runOf rs k).s - (htAt H (runOf rs k).t - htAt H (runOf rs k).f) := by
  have h := way_ends hw (first_tree hw) hk
  unfold loopT
  rw [lsum_cons, er_up, lsum_pot (P := htAt H) (fun z hz => hH.fit _ (List.mem_map.2 ⟨_, h.1 z hz, rfl⟩)) h.2.2]
  omega

/-! the errors of all runs beside the first tree -/
noncomputable def errsTo (N : Nat) (rs : List Rn) : Nat → List Int
  | 0 => []
  | j + 1 => open Classical in if (j : Int) ∈ firstT N rs rs.length then errsTo N rs j else errsTo N rs j ++ [lsum rs (loopT N rs j)]
noncomputable def errs (N : Nat) (rs : List Rn) : List Int := errsTo N rs rs.length
theorem errsTo_in {j : Nat} (h : (j : Int) ∈ firstT N rs rs.length) : errsTo N rs (j + 1) = errsTo N rs j := by rw [errsTo, if_pos h]
theorem errsTo_out {j : Nat} (h : (j : Int) ∉ firstT N rs rs.length) : errsTo N rs (j + 1) = errsTo N rs j ++ [lsum rs (loopT N rs j)] := by rw [errsTo, if_neg h]
theorem count_up {T : List Int} (hT : T.Pairwise (· < ·)) (j : Nat) : (T.filter (fun x => decide (x < (j : Int) + 1))).length = (T.filter (fun x => decide (x < (j : Int)))).length + (if (j : Int) ∈ T then 1 else 0) := by
  induction T with
  | nil => simp
  | cons x T ih =>
    rw [List.pairwise_cons] at hT
    have ih := ih hT.2
    by_cases h1 : x < (j : Int)
    · have e2 : ¬ (j : Int) = x := by omega
      have em : ((j : Int) ∈ x :: T) ↔ (j : Int) ∈ T := by rw [List.mem_cons]; exact ⟨fun h => h.elim (fun h => absurd h e2) id, .inr⟩
      rw [List.filter_cons_of_pos (by simp; omega), List.filter_cons_of_pos (by simpa using h1), List.length_cons, List.length_cons, ih]
      by_cases hj : (j : Int) ∈ T
      · rw [if_pos hj, if_pos (em.2 hj)]
      · rw [if_neg hj, if_neg (fun h => hj (em.1 h))]
    · have hn : (j : Int) ∉ T := fun hc => by have := hT.1 _ hc; omega
      rw [if_neg hn] at ih
      by_cases h2 : x = (j : Int)
      · rw [List.filter_cons_of_pos (by simp; omega), List.filter_cons_of_neg (by simpa using h1), List.length_cons, ih, if_pos (by rw [h2]; simp)]
      · rw [List.filter_cons_of_neg (by simp; omega), List.filter_cons_of_neg (by simpa using h1), ih, if_neg (by rw [List.mem_cons]; exact fun h => h.elim (fun h => h2 h.symm) hn)]
theorem errsTo_len (ht : (firstT N rs rs.length).Pairwise (· < ·)) : ∀ j : Nat, (errsTo N rs j).length + ((firstT N rs rs.length).filter (fun x => decide (x < (j : Int)))).length = j + ((firstT N rs rs.length).filter (fun x => decide (x < (0 : Int)))).length
  | 0 => by simp [errsTo]
  | j + 1 => by
    have ih := errsTo_len ht j
    have hc := count_up ht j
    by_cases h : (j : Int) ∈ firstT N rs rs.length
    · rw [errsTo_in h]; rw [if_pos h] at hc; simp only [Int.natCast_add, Int.natCast_one]; omega
    · rw [errsTo_out h]; rw [if_neg h] at hc; simp only [Int.natCast_add, Int.natCast_one, List.length_append, List.length_singleton]; omega
/-- there are as many as loops -/
theorem errs_len (hw : nWhole N rs = true) : ((errs N rs).length : Int) = nLoops N rs := by
  have ht := first_tree hw
  have h := errsTo_len ht.asc.up rs.length
  have h1 : ((firstT N rs rs.length).filter (fun x => decide (x < (rs.length : Int)))) = firstT N rs rs.length := List.filter_eq_self.2 (fun x hx => by have := (ht.asc.rng x hx).2; simpa using this)
  have h2 : ((firstT N rs rs.length).filter (fun x => decide (x < (0 : Int)))) = [] := List.filter_eq_nil_iff.2 (fun x hx => by have := (ht.asc.rng x hx).1; simp; omega)
  rw [h1, h2] at h
  obtain ⟨hn, hr⟩ := whole_iff.1 hw
  have hr' : roots (labs N rs) N = 1 := hr
  rw [nLoops_yes hn, hr']
  have := ht.len
  unfold errs
  simp at h
  omega
theorem errsTo_all {p : Int → Prop} : ∀ j : Nat, (∀ e ∈ errsTo N rs j, p e) ↔ ∀ i : Nat, i < j → (i : Int) ∉ firstT N rs rs.length → p (lsum rs (loopT N rs i))
  | 0 => by simp [errsTo]
  | j + 1 => by
    have ih := errsTo_all (p := p) j
    by_cases h : (j : Int) ∈ firstT N rs rs.length
    · rw [errsTo_in h, ih]
      constructor
      · intro hh i hi hn
        by_cases e : i = j
        · subst e; exact absurd h hn
        · exact hh i (by omega) hn
      · intro hh i hi hn; exact hh i (by omega) hn
    · rw [errsTo_out h]
      constructor
      · intro hh i hi hn
        by_cases e : i = j
        · subst e; exact hh _ (by simp)
        · exact ih.1 (fun e he => hh e (List.mem_append_left _ he)) i (by omega) hn
      · intro hh e he
        rcases List.mem_append.1 he with he | he
        · exact ih.2 (fun i hi hn => hh i (by omega) hn) e he
        · simp at he; subst he; exact hh j (by omega) h
/-- no error: the heights of the first tree fit all runs -/
theorem errs_zero {H : List Int} (hw : nWhole N rs = true) (hH : IsHt N (sub rs (firstT N rs rs.length)) H) : (∀ e ∈ errs N rs, e = 0) ↔ ∀ r ∈ rs, htAt H r.t - htAt H r.f = r.s := by
  unfold errs
  rw [errsTo_all]
  constructor
  · intro h r hr
    obtain ⟨i, hi⟩ := List.getElem?_of_mem hr
    have hlt := (List.getElem?_eq_some_iff.1 hi).1
    have er : runOf rs (i : Int) = r := by unfold runOf; simp [hi]
    by_cases hin : (i : Int) ∈ firstT N rs rs.length
    · exact hH.fit r (List.mem_map.2 ⟨i, hin, er⟩)
    · have := h i hlt hin
      rw [loopT_sum hw hlt hH, er] at this
      omega
  · intro h i hi hn
    rw [loopT_sum hw hi hH]
    have := h _ (List.mem_of_getElem? (runOf_at (rs := rs) (z := (i : Int)) (by omega) (by omega)))
    omega
end
end Go.Proofs.YtoaomjchaihkaaaGreatDoor
namespace Go.Proofs.YtoaomjchaihkaaaGreatDoor
set_option linter.unusedVariables false

section
variable {N : Nat} {n : Int} {rs : List Rn} {T L M A B : List Int} {a b c z e : Int} {k : Nat}
theorem ht_some (h : IsTree N rs T) : ∃ H, IsHt N (sub rs T) H := by
  obtain ⟨P, hP⟩ := Free.pot _ rfl h.ends h.rk
  have hN := (nOk_true h.ok).1
  have at_ : ∀ x : Int, 0 ≤ x → x < N → htAt ((List.range N).map (fun (i : Nat) => P i - P 0)) x = P x - P 0 := fun x h0 h1 => by
    unfold htAt
    rw [List.getElem?_map, List.getElem?_range (by omega)]
    simp [show ((x.toNat : Nat) : Int) = x by omega]
  refine ⟨(List.range N).map (fun (i : Nat) => P i - P 0), ⟨by simp, ?_, fun r hr => ?_⟩⟩
  · rw [at_ 0 (by omega) (by omega)]; omega
  · obtain ⟨a0, a1, a2, a3⟩ := h.ends r hr
    rw [at_ _ a0 a1, at_ _ a2 a3]
    have := hP r hr
    omega
noncomputable def closes (N : Nat) (rs : List Rn) : Bool := open Classical in decide (nWhole N rs = true ∧ ∀ e ∈ errs N rs, e = 0)
theorem closes_true : closes N rs = true ↔ nWhole N rs = true ∧ ∀ e ∈ errs N rs, e = 0 := by unfold closes; simp
/-- a net closes if it is whole and has heights -/
theorem closes_pot : closes N rs = true ↔ nWhole N rs = true ∧ ∃ P : Int → Int, ∀ r ∈ rs, P r.t - P r.f = r.s := by
  rw [closes_true]
  constructor
  · rintro ⟨hw, h⟩
    obtain ⟨H, hH⟩ := ht_some (first_tree hw)
    exact ⟨hw, htAt H, (errs_zero hw hH).1 h⟩
  · rintro ⟨hw, P, hP⟩
    obtain ⟨H, hH⟩ := ht_some (first_tree hw)
    refine ⟨hw, fun e he => ?_⟩
    have := (errsTo_all (N := N) (rs := rs) (p := fun e => e = 0) rs.length).2 (fun i hi hn => (loopT_is hw hi).flat hP)
    exact this e he
/-- with one run 1 higher a net that closes does so exactly if it is not whole without this run -/
theorem closes_up {r : Rn} (hc : closes N rs = true) (hr : rs[k]? = some r) (hv : nOk N (rs.set k { r with s := r.s + 1 }) = true) : closes N (rs.set k { r with s := r.s + 1 }) = !nWhole N (rs.take k ++ rs.drop (k + 1)) := by
  obtain ⟨hw, P, hP⟩ := closes_pot.1 hc
  have hk := (List.getElem?_eq_some_iff.1 hr).1
  have hrk : rs[k] = r := (List.getElem?_eq_some_iff.1 hr).2
  have e1 : rs = rs.take k ++ r :: rs.drop (k + 1) := by rw [← hrk, ← List.drop_eq_getElem_cons hk, List.take_append_drop]
  have e2 : rs.set k { r with s := r.s + 1 } = rs.take k ++ { r with s := r.s + 1 } :: rs.drop (k + 1) := List.set_eq_take_append_cons_drop .. |>.trans (by rw [if_pos hk])
  obtain ⟨us, hus⟩ : ∃ us, rs.take k = us := ⟨_, rfl⟩
  obtain ⟨vs, hvs⟩ : ∃ vs, rs.drop (k + 1) = vs := ⟨_, rfl⟩
  rw [hus, hvs] at e1 e2 ⊢
  rw [e2] at hv ⊢
  subst e1
  have hn := (whole_iff.1 hw).1
  have hnr : nOk N (us ++ vs) = true := by
    obtain ⟨h1, h2, h3, h4⟩ := nOk_true hn
    refine nOk_of h1 h2 (by simp at h3 ⊢; omega) (fun i x hx => ?_)
    have hm : x ∈ us ++ r :: vs := by
      have := List.mem_of_getElem? hx
      simp at this ⊢
      rcases this with h | h
      · exact .inl h
      · exact .inr (.inr h)
    obtain ⟨j, hj⟩ := List.getElem?_of_mem hm
    exact h4 j x hj
  have hPu : ∀ x ∈ us ++ vs, P x.t - P x.f = x.s := fun x hx => hP x (by simp at hx ⊢; rcases hx with h | h; exact .inl h; exact .inr (.inr h))
  have hPr := hP r (by simp)
  have hwx : nWhole N (us ++ { r with s := r.s + 1 } :: vs) = true := whole_mono (us := us ++ r :: vs) hv (fun x hx => by
    rcases List.mem_append.1 hx with h | h
    · exact Same.run (List.mem_append_left _ h)
    · rcases List.mem_cons.1 h with h | h
      · subst h; exact Same.run (r := { x with s := x.s + 1 }) (by simp)
      · exact Same.run (by simp [h])) hw
  obtain ⟨q0, q1, q2, q3⟩ := nOk_ends hn r (by simp)
  cases hb : nWhole N (us ++ vs)
  · -- not whole without it: lift one side
    have hns : ¬ Same (us ++ vs) r.f r.t := fun hs => by
      have := whole_mono (us := us ++ r :: vs) (rs := us ++ vs) hnr (fun x hx => by
        rcases List.mem_append.1 hx with h | h
        · exact Same.run (List.mem_append_left _ h)
        · rcases List.mem_cons.1 h with h | h
          · subst h; exact hs
          · exact Same.run (by simp [h])) hw
      rw [hb] at this; cases this
    obtain ⟨g, hg1, hg2⟩ : ∃ g : Int → Prop, (∀ x ∈ us ++ vs, (g x.f ↔ g x.t)) ∧ ¬ (g r.f ↔ g r.t) :=
      Classical.byContradiction (fun hno => hns (fun g hg => Classical.byContradiction (fun hh => hno ⟨g, hg, hh⟩)))
    obtain ⟨g, hg1, hgf, hgt⟩ : ∃ g : Int → Prop, (∀ x ∈ us ++ vs, (g x.f ↔ g x.t)) ∧ ¬ g r.f ∧ g r.t := by
      by_cases h1 : g r.f
      · exact ⟨fun x => ¬ g x, fun x hx => not_congr (hg1 x hx), fun h => h h1, fun h2 => hg2 ⟨fun _ => h2, fun _ => h1⟩⟩
      · exact ⟨g, hg1, h1, Classical.byContradiction (fun h2 => hg2 ⟨fun h => absurd h h1, fun h => absurd h h2⟩)⟩
    rw [Bool.not_false, closes_pot]
    open Classical in
    refine ⟨hwx, fun x => P x + if g x then 1 else 0, fun x hx => ?_⟩
    have same : ∀ x ∈ us ++ vs, (P x.t + if g x.t then 1 else 0) - (P x.f + if g x.f then 1 else 0) = x.s := fun x hx => by
      have h1 := hPu x hx
      have h2 := hg1 x hx
      by_cases h3 : g x.f
      · rw [if_pos h3, if_pos (h2.1 h3)]; omega
      · rw [if_neg h3, if_neg (fun h => h3 (h2.2 h))]; omega
    rcases List.mem_append.1 hx with h | h
    · exact same x (List.mem_append_left _ h)
    · rcases List.mem_cons.1 h with h | h
      · subst h
        simp only
        rw [if_pos hgt, if_neg hgf]; omega
      · exact same x (List.mem_append_right _ h)
  · rw [Bool.not_true]
    refine Bool.eq_false_iff.2 (fun hcx => ?_)
    obtain ⟨-, Q, hQ⟩ := closes_pot.1 hcx
    have key : ∀ i : Nat, i < N → Q i - P i = Q 0 - P 0 := fun i hi => by
      have := (whole_same hb hi (fun x => Q x - P x = Q 0 - P 0) (fun x hx => by
        have h1 := hPu x hx
        have h2 := hQ x (by simp at hx ⊢; rcases hx with h | h; exact .inl h; exact .inr (.inr h))
        constructor <;> intro _ <;> omega)).1 rfl
      exact this
    have h1 := key r.f.toNat (by omega)
    have h2 := key r.t.toNat (by omega)
    rw [show ((r.f.toNat : Nat) : Int) = r.f by omega] at h1
    rw [show ((r.t.toNat : Nat) : Int) = r.t by omega] at h2
    have h3 := hQ { r with s := r.s + 1 } (by simp)
    simp only at h3
    omega

/-! rises of heights added -/
section
variable {g : Rn → Rn} (hf : ∀ r, (g r).f = r.f) (ht : ∀ r, (g r).t = r.t)
include hf ht
omit hf ht in
theorem runOf_map {z : Int} (h0 : 0 ≤ z) (h1 : z < rs.length) : runOf (rs.map g) z = g (runOf rs z) := by
  have := runOf_at h0 h1
  unfold runOf at *
  rw [List.getElem?_map, this]; rfl
omit hf ht in
theorem sub_map (h : Asc rs.length T) : sub (rs.map g) T = (sub rs T).map g := by
  unfold sub
  rw [List.map_map]
  exact List.map_congr_left (fun z hz => by obtain ⟨a, b⟩ := h.rng z hz; exact runOf_map a b)
theorem ends_map {us : List Rn} : EndsOf us (us.map g) ∧ EndsOf (us.map g) us := by
  constructor
  · intro r hr
    have := Same.run (rs := us.map g) (r := g r) (List.mem_map.2 ⟨r, hr, rfl⟩)
    rwa [hf, ht] at this
  · intro r hr
    obtain ⟨r', hr', rfl⟩ := List.mem_map.1 hr
    rw [hf, ht]; exact Same.run hr'
theorem lab_map {us : List Rn} : lab N (us.map g) = lab N us := by
  funext x
  unfold lab
  rw [labs_ends (ends_map hf ht).1 (ends_map hf ht).2]
theorem firstT_map (hok : EndsIn N rs) : ∀ j : Nat, j ≤ rs.length → firstT N (rs.map g) j = firstT N rs j
  | 0, _ => rfl
  | j + 1, hj => by
    have ih := firstT_map hok j (by omega)
    have hr : rs[j]? = some rs[j] := List.getElem?_eq_getElem (by omega)
    have hr' : (rs.map g)[j]? = some (g rs[j]) := by rw [List.getElem?_map, hr]; rfl
    have ha : Asc rs.length (firstT N rs j) := by
      have := (firstT_is hok j (by omega)).asc
      exact ⟨fun z hz => by have := this.rng z hz; omega, this.up⟩
    by_cases he : lab N (sub rs (firstT N rs j)) rs[j].f = lab N (sub rs (firstT N rs j)) rs[j].t
    · rw [firstT_skip hr he, firstT_skip hr' (by rw [ih, sub_map ha, lab_map hf ht, hf, ht]; exact he), ih]
    · rw [firstT_take hr he, firstT_take hr' (by rw [ih, sub_map ha, lab_map hf ht, hf, ht]; exact he), ih]
theorem bg_map (h0 : 0 ≤ ix z) (h1 : ix z < rs.length) : bg (rs.map g) z = bg rs z ∧ en (rs.map g) z = en rs z := by
  unfold bg en; rw [runOf_map h0 h1, hf, ht]; exact ⟨rfl, rfl⟩
theorem chain_map : ∀ {L : List Int} {a : Int}, (∀ z ∈ L, 0 ≤ ix z ∧ ix z < rs.length) → (Chain (rs.map g) a L b ↔ Chain rs a L b)
  | [], a, _ => Iff.rfl
  | z :: L, a, h => by
    have := h z (by simp)
    obtain ⟨e1, e2⟩ := bg_map hf ht this.1 this.2
    simp only [Chain]
    rw [e1, e2, chain_map (fun z' h' => h z' (by simp [h']))]
theorem trail_map (h : Asc rs.length T) : Trail (rs.map g) T a L b ↔ Trail rs T a L b := by
  unfold Trail
  constructor
  · rintro ⟨h1, h2, h3⟩; exact ⟨h1, h2, (chain_map hf ht (fun z hz => h.rng _ (h1 z hz))).1 h3⟩
  · rintro ⟨h1, h2, h3⟩; exact ⟨h1, h2, (chain_map hf ht (fun z hz => h.rng _ (h1 z hz))).2 h3⟩
theorem wayT_map (h : Asc rs.length T) : wayT (rs.map g) T a b = wayT rs T a b := by
  have : (fun L => Trail (rs.map g) T a L b) = (fun L => Trail rs T a L b) := funext (fun L => propext (trail_map hf ht h))
  unfold wayT
  rw [this]
theorem loopT_map (hw : nWhole N rs = true) (hk : k < rs.length) : loopT N (rs.map g) k = loopT N rs k := by
  unfold loopT
  rw [List.length_map, firstT_map hf ht (nOk_ends (whole_iff.1 hw).1) _ (Nat.le_refl _), runOf_map (by omega) (by omega), hf, ht, wayT_map hf ht (first_tree hw).asc]
end
theorem lsum_shift {g : Rn → Rn} {P : Int → Int} (hg : ∀ r, (g r).s = r.s + P r.t - P r.f) (hf : ∀ r, (g r).f = r.f) (ht : ∀ r, (g r).t = r.t) : ∀ {L : List Int} {a : Int}, (∀ z ∈ L, 0 ≤ ix z ∧ ix z < rs.length) → Chain rs a L b → lsum (rs.map g) L = lsum rs L + P b - P a
  | [], a, _, h => by cases h; rw [lsum_nil, lsum_nil]; omega
  | z :: L, a, hz, ⟨h1, h2⟩ => by
    subst h1
    have h3 := hz z (by simp)
    rw [lsum_cons, lsum_cons, lsum_shift hg hf ht (fun z' h' => hz z' (by simp [h'])) h2]
    unfold er bg en
    rw [runOf_map h3.1 h3.2, hg]
    split <;> omega
/-- rises of heights added to all rises change no error -/
theorem errs_shift {g : Rn → Rn} {P : Int → Int} (hg : ∀ r, (g r).s = r.s + P r.t - P r.f) (hf : ∀ r, (g r).f = r.f) (ht : ∀ r, (g r).t = r.t) (hw : nWhole N rs = true) : errs N (rs.map g) = errs N rs := by
  have hF := firstT_map hf ht (nOk_ends (whole_iff.1 hw).1) rs.length (Nat.le_refl _)
  have key : ∀ j : Nat, j ≤ rs.length → errsTo N (rs.map g) j = errsTo N rs j := by
    intro j
    induction j with
    | zero => intro _; rfl
    | succ j ih =>
      intro hj
      have hl := loopT_is hw (k := j) (by omega)
      by_cases h : (j : Int) ∈ firstT N rs rs.length
      · rw [errsTo_in h, errsTo_in (by rw [List.length_map, hF]; exact h), ih (by omega)]
      · rw [errsTo_out h, errsTo_out (by rw [List.length_map, hF]; exact h), ih (by omega), loopT_map hf ht hw (by omega)]
        obtain ⟨c, hc⟩ := hl.loop
        rw [lsum_shift hg hf ht (fun z hz => ⟨(hl.run hz).1, (hl.run hz).2.1⟩) hc]
        congr 2; omega
  unfold errs
  rw [List.length_map, key _ (Nat.le_refl _)]
theorem whole_shift {g : Rn → Rn} (hf : ∀ r, (g r).f = r.f) (ht : ∀ r, (g r).t = r.t) (hw : nWhole N rs = true) (hn : nOk N (rs.map g) = true) : nWhole N (rs.map g) = true := whole_mono hn (ends_map hf ht).1 hw

/-! the search along a tree -/
/-- on from the end of a trail by another run than its last one: a longer trail -/
theorem trail_on {P : List Int} {s : Int} (h : IsTree N rs T) (hP : Trail rs T s P (bg rs z)) (hz : ix z ∈ T) (hl : ∀ y Q, P = Q ++ [y] → ix y ≠ ix z) : Trail rs T s (P ++ [z]) (en rs z) := by
  refine trail_append.2 ⟨_, hP, trail_one hz, fun y hy z' hz' e => ?_⟩
  simp at hz'; subst hz'
  obtain ⟨pre, post, rfl⟩ := List.append_of_mem hy
  obtain ⟨c, p1, p2, p3⟩ := trail_append.1 hP
  obtain ⟨q1, q2, q3, q4⟩ := trail_cons.1 p2
  rcases ix_same e with e2 | e2
  · subst e2
    rw [q2] at p2
    have := trail_closed h p2
    cases this
  · subst e2
    rw [bg_neg (ix_ne h.asc q1)] at q3
    have := trail_closed h q3
    subst this
    exact hl y pre rfl e
/-- a way begins with a run exactly if the way from its other end does not begin with it too -/
theorem way_head (h : IsTree N rs T) (hz : ix z ∈ T) (hb : ∃ L, Trail rs T (bg rs z) L b) : wayT rs T (bg rs z) b = z :: wayT rs T (en rs z) b ∨ ((∃ M, wayT rs T (en rs z) b = (-z) :: M) ∧ ∀ M, wayT rs T (bg rs z) b ≠ z :: M) := by
  have h0 := ix_ne h.asc hz
  have hw := wayT_is hb
  by_cases hh : ∃ M, wayT rs T (bg rs z) b = z :: M
  · obtain ⟨M, hM⟩ := hh
    left
    rw [hM] at hw ⊢
    obtain ⟨q1, q2, q3, q4⟩ := trail_cons.1 hw
    rw [wayT_of h q3]
  · right
    refine ⟨?_, fun M hM => hh ⟨M, hM⟩⟩
    obtain ⟨L, hL⟩ : ∃ L, wayT rs T (bg rs z) b = L := ⟨_, rfl⟩
    rw [hL] at hw
    refine ⟨L, wayT_of h ?_⟩
    refine trail_cons.2 ⟨by rw [ix_neg]; exact hz, bg_neg h0, by rw [en_neg h0]; exact hw, fun z' hz' e => ?_⟩
    rw [ix_neg] at e
    obtain ⟨pre, post, rfl⟩ := List.append_of_mem hz'
    obtain ⟨c, p1, p2, p3⟩ := trail_append.1 hw
    obtain ⟨q1, q2, q3, q4⟩ := trail_cons.1 p2
    rcases ix_same e.symm with e2 | e2
    · subst e2
      rw [← q2] at p1
      have := trail_closed h p1
      subst this
      exact hh ⟨post, by rw [hL]; rfl⟩
    · subst e2
      rw [bg_neg h0] at q2
      have hc : Trail rs T (bg rs z) (pre ++ [-z]) (bg rs z) := trail_append.2 ⟨c, p1, by have := trail_one (rs := rs) q1; rw [bg_neg h0, en_neg h0, q2] at this; exact this, fun y hy z' hz'' => p3 y hy z' (by simp at hz''; subst hz''; simp)⟩
      have := trail_closed h hc
      simp at this
end
end Go.Proofs.YtoaomjchaihkaaaGreatDoor
namespace Go.Proofs.YtoaomjchaihkaaaGreatDoor
set_option linter.unusedVariables false

/-- so many are left -/
def tru : List Bool → Nat
  | [] => 0
  | b :: l => (if b = true then 1 else 0) + tru l
theorem tru_set : ∀ {l : List Bool} {i : Nat}, l[i]? = some true → tru (l.set i false) + 1 = tru l
  | [], i, h => by simp at h
  | b :: l, 0, h => by simp at h; subst h; simp [tru]; omega
  | b :: l, i + 1, h => by
    have := tru_set (l := l) (i := i) (by simpa using h)
    simp only [List.set_cons_succ, tru]; omega
theorem tru_le : ∀ l : List Bool, tru l ≤ l.length
  | [] => by simp [tru]
  | b :: l => by have := tru_le l; simp only [tru, List.length_cons]; split <;> omega
/-- the number that a run has from a node on -/
def numAt (rs : List Rn) (k : Nat) (v : Int) : Int := if v = (runOf rs k).f then (k : Int) + 1 else if v = (runOf rs k).t then -((k : Int) + 1) else 0
section
variable {N : Nat} {rs : List Rn} {T W P L M : List Int} {a b c d z e : Int} {k j : Nat} {lf : List Bool}
theorem numAt_is (h : numAt rs k d ≠ 0) : ix (numAt rs k d) = k ∧ bg rs (numAt rs k d) = d ∧ numAt rs k d ≠ 0 := by
  unfold numAt at h ⊢
  by_cases h1 : d = (runOf rs k).f
  · rw [if_pos h1]; exact ⟨ix_up k, by rw [bg_up]; exact h1.symm, by omega⟩
  · rw [if_neg h1] at h ⊢
    by_cases h2 : d = (runOf rs k).t
    · rw [if_pos h2]; exact ⟨by rw [ix_neg]; exact ix_up k, by rw [bg_neg (by omega), en_up]; exact h2.symm, by omega⟩
    · rw [if_neg h2] at h; exact absurd rfl h
theorem numAt_not (h : numAt rs (k) d = 0) (hz : ix z = k) (h0 : z ≠ 0) : bg rs z ≠ d := by
  intro hb
  unfold numAt at h
  by_cases h1 : d = (runOf rs k).f
  · rw [if_pos h1] at h; omega
  · rw [if_neg h1] at h
    by_cases h2 : d = (runOf rs k).t
    · rw [if_pos h2] at h; omega
    · unfold bg at hb
      rw [hz] at hb
      split at hb
      · exact h2 hb.symm
      · exact h1 hb.symm
/-- the stack W leads from a to d; what is left are runs of T that the stack has not, and no run of the way to b is gone but those of the stack -/
structure Dfs (rs : List Rn) (T : List Int) (a b : Int) (lf : List Bool) (W : List Int) (d : Int) : Prop where
  len : lf.length = rs.length
  asc : Asc rs.length T
  wy : ∃ L, Trail rs T a L b
  tr : Trail rs T a W d
  lt : ∀ i : Nat, lf[i]? = some true → (i : Int) ∈ T
  us : ∀ z ∈ W, lf[(ix z).toNat]? = some false
  pu : ∀ z ∈ wayT rs T a b, lf[(ix z).toNat]? = some false → ix z ∈ W.map ix
theorem dfs_start (hl : lf.length = rs.length) (ha : Asc rs.length T) (h : ∀ i : Nat, i < rs.length → (lf[i]? = some true ↔ (i : Int) ∈ T)) (hw : ∃ L, Trail rs T a L b) : Dfs rs T a b lf [] a := by
  refine ⟨hl, ha, hw, trail_nil.2 rfl, fun i hi => (h i (by have := (List.getElem?_eq_some_iff.1 hi).1; omega)).1 hi, fun z hz => by simp at hz, fun z hz hf => ?_⟩
  have hz := (wayT_is hw).1 z hz
  have hr := ha.rng _ hz
  have := (h (ix z).toNat (by omega)).2 (by rw [show (((ix z).toNat : Nat) : Int) = ix z by omega]; exact hz)
  rw [hf] at this; simp at this
theorem dfs_push (h : Dfs rs T a b lf W d) (hk : lf[k]? = some true) (hz : numAt rs k d ≠ 0) : Dfs rs T a b (lf.set k false) (W ++ [numAt rs k d]) (en rs (numAt rs k d)) := by
  obtain ⟨h1, h2, h3⟩ := numAt_is hz
  have hkl := (List.getElem?_eq_some_iff.1 hk).1
  refine ⟨by rw [List.length_set]; exact h.len, h.asc, h.wy, trail_append.2 ⟨d, h.tr, ?_, ?_⟩, fun i hi => ?_, fun z hz => ?_, fun z hz hf => ?_⟩
  · have := trail_one (rs := rs) (T := T) (z := numAt rs k d) (by rw [h1]; exact h.lt k hk)
    rw [h2] at this; exact this
  · intro z hz z' hz' he
    simp at hz'; subst hz'
    have := h.us z hz
    rw [he, h1] at this
    rw [show ((k : Int)).toNat = k by omega, hk] at this
    simp at this
  · by_cases e : i = k
    · subst e; rw [List.getElem?_set_self hkl] at hi; simp at hi
    · rw [List.getElem?_set_ne (by omega)] at hi; exact h.lt i hi
  · rcases List.mem_append.1 hz with hz | hz
    · by_cases e : (ix z).toNat = k
      · rw [e, List.getElem?_set_self hkl]
      · rw [List.getElem?_set_ne (by omega)]; exact h.us z hz
    · simp at hz; subst hz
      rw [h1, show ((k : Int)).toNat = k by omega, List.getElem?_set_self hkl]
  · rw [List.map_append, List.mem_append]
    have hr := h.asc.rng _ ((wayT_is h.wy).1 z hz)
    by_cases e : ix z = k
    · right; simp [h1, e]
    · left
      rw [List.getElem?_set_ne (by omega)] at hf; exact h.pu z hz hf
theorem chain_end : ∀ {L : List Int} {a : Int}, Chain rs a L b → Chain rs a L c → b = c
  | [], a, h, k => by cases h; cases k; rfl
  | z :: L, a, ⟨_, h⟩, ⟨_, k⟩ => chain_end h k
/-- what the stack holds is no piece of the way if nothing is left at its end -/
theorem dfs_key (h : Dfs rs T a b lf W d) (hd : d ≠ b) (hn : ∀ i : Nat, lf[i]? = some true → numAt rs i d = 0) (he : wayT rs T a b = W ++ M) : False := by
  have hw := wayT_is h.wy
  rw [he] at hw
  obtain ⟨c, p1, p2, p3⟩ := trail_append.1 hw
  have hcd : c = d := chain_end p1.2.2 h.tr.2.2
  subst hcd
  cases M with
  | nil => exact hd (trail_nil.1 p2)
  | cons y M =>
    obtain ⟨q1, q2, q3, q4⟩ := trail_cons.1 p2
    have hr := h.asc.rng _ q1
    have hi : ((ix y).toNat : Int) = ix y := by omega
    have hlt : (ix y).toNat < lf.length := by rw [h.len]; omega
    cases hb : lf[(ix y).toNat] with
    | true =>
      have := hn (ix y).toNat (by rw [List.getElem?_eq_getElem hlt, hb])
      exact numAt_not this hi.symm (ix_ne h.asc q1) q2
    | false =>
      have := h.pu y (by rw [he]; simp) (by rw [List.getElem?_eq_getElem hlt, hb])
      obtain ⟨z, hz, e⟩ := List.mem_map.1 this
      exact p3 z hz y (by simp) e
theorem dfs_pop (ht : IsTree N rs T) (h : Dfs rs T a b lf (W ++ [z]) d) (hd : d ≠ b) (hn : ∀ i : Nat, lf[i]? = some true → numAt rs i d = 0) : Dfs rs T a b lf W (bg rs z) := by
  obtain ⟨c, p1, p2, p3⟩ := trail_append.1 h.tr
  obtain ⟨q1, q2, q3, q4⟩ := trail_cons.1 p2
  have hcd := trail_nil.1 q3
  subst q2
  refine ⟨h.len, h.asc, h.wy, p1, h.lt, fun y hy => h.us y (by simp [hy]), fun y hy hf => ?_⟩
  have := h.pu y hy hf
  rw [List.map_append, List.mem_append] at this
  rcases this with h' | h'
  · exact h'
  · exfalso
    simp at h'
    obtain ⟨pre, post, he⟩ := List.append_of_mem hy
    have hw := wayT_is h.wy
    rw [he] at hw
    obtain ⟨c', r1, r2, r3⟩ := trail_append.1 hw
    obtain ⟨s1, s2, s3, s4⟩ := trail_cons.1 r2
    rcases ix_same h'.symm with e | e
    · subst e
      rw [← s2] at r1
      have := trail_unique ht r1 p1
      subst this
      exact dfs_key h hd hn (M := post) (by rw [he]; simp)
    · have hz0 := ix_ne h.asc q1
      have : bg rs y = d := by rw [e, bg_neg hz0]; exact hcd
      rw [← s2, this] at r1
      have := trail_unique ht r1 h.tr
      subst this
      exact dfs_key h hd hn (M := y :: post) he
theorem dfs_some (h : Dfs rs T a b lf W d) (hd : d ≠ b) (hn : ∀ i : Nat, lf[i]? = some true → numAt rs i d = 0) : ∃ W' z, W = W' ++ [z] := by
  cases W with
  | nil => exact (dfs_key h hd hn (M := wayT rs T a b) (by simp)).elim
  | cons y M => exact ⟨(y :: M).dropLast, (y :: M).getLast (by simp), (List.dropLast_concat_getLast (by simp)).symm⟩
theorem dfs_end (ht : IsTree N rs T) (h : Dfs rs T a b lf W b) : wayT rs T a b = W := wayT_of ht h.tr
end
end Go.Proofs.YtoaomjchaihkaaaGreatDoor
