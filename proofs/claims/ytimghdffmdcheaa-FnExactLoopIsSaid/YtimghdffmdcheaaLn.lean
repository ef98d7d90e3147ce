/-
  Loops of a net: what a loop is, told by its numbers one behind the other; begun elsewhere, turned, both together; the loop of a run beside the first tree, and the errors of all. No function of the program is named.
-/
import Derived.Test.YtimghdffmdcheaaLm
namespace Go.Proofs.Ytimghdffmdcheaa
set_option linter.unusedVariables false

structure IsL (n : Int) (rs : List Rn) (L : List Int) : Prop where
  ok : nOk n rs = true
  one : 1 ≤ L.length
  most : L.length ≤ 12
  rng : ∀ z ∈ L, z ≠ 0 ∧ -(rs.length : Int) ≤ z ∧ z ≤ rs.length
  loop : ∃ c, Chain rs c L c
noncomputable def isL (n : Int) (rs : List Rn) (L : List Int) : Bool := open Classical in decide (IsL n rs L)
section
variable {N : Nat} {n : Int} {rs : List Rn} {T L M A B : List Int} {a b c z e : Int} {k : Nat}
theorem isL_true : isL n rs L = true ↔ IsL n rs L := by unfold isL; simp
theorem isL_false : isL n rs L = false ↔ ¬ IsL n rs L := by unfold isL; simp
theorem chain_iff : ∀ {M : List Int} {z a : Int}, Chain rs a (z :: M) b ↔ bg rs z = a ∧ (∀ (i : Nat) (x y : Int), (z :: M)[i]? = some x → (z :: M)[i + 1]? = some y → en rs x = bg rs y) ∧ ∀ x, (z :: M)[M.length]? = some x → en rs x = b
  | [], z, a => by simp [Chain]
  | y :: M, z, a => by
    rw [Chain, chain_iff]
    constructor
    · rintro ⟨h1, h2, h3, h4⟩
      refine ⟨h1, fun i x y' hx hy => ?_, fun x hx => h4 x (by simpa using hx)⟩
      cases i with
      | zero => simp at hx hy; subst hx; subst hy; exact h2.symm
      | succ i => exact h3 i x y' (by simpa using hx) (by simpa using hy)
    · rintro ⟨h1, h3, h4⟩
      exact ⟨h1, (h3 0 z y rfl rfl).symm, fun i x y' hx hy => h3 (i + 1) x y' (by simpa using hx) (by simpa using hy), fun x hx => h4 x (by simpa using hx)⟩
/-- each number begins where the one ahead ends, the first one where the last one does -/
theorem loop_at (h : 0 < L.length) : (∃ c, Chain rs c L c) ↔ ∀ (i : Nat) (x y : Int), L[i]? = some x → L[(i + 1) % L.length]? = some y → en rs x = bg rs y := by
  cases L with
  | nil => simp at h
  | cons z M =>
    constructor
    · rintro ⟨c, hc⟩ i x y hx hy
      obtain ⟨h1, h2, h3⟩ := chain_iff.1 hc
      have hi := (List.getElem?_eq_some_iff.1 hx).1
      by_cases hl : i + 1 < (z :: M).length
      · rw [Nat.mod_eq_of_lt hl] at hy
        exact h2 i x y hx hy
      · have e : i + 1 = (z :: M).length := by omega
        rw [e, Nat.mod_self] at hy
        simp at hy; subst hy
        have e2 : i = M.length := by simp at e; omega
        subst e2
        rw [h1]; exact h3 x hx
    · intro hh
      refine ⟨bg rs z, chain_iff.2 ⟨rfl, fun i x y hx hy => ?_, fun x hx => ?_⟩⟩
      · have hi := (List.getElem?_eq_some_iff.1 hy).1
        exact hh i x y hx (by rw [Nat.mod_eq_of_lt hi]; exact hy)
      · exact hh M.length x z hx (by rw [show M.length + 1 = (z :: M).length from rfl, Nat.mod_self]; rfl)
theorem isL_rot (h : IsL n rs (A ++ B)) : IsL n rs (B ++ A) := by
  obtain ⟨h1, h2, h3, h4, c, h5⟩ := h
  obtain ⟨d, h6, h7⟩ := chain_append.1 h5
  exact ⟨h1, by simp at h2 ⊢; omega, by simp at h3 ⊢; omega, fun z hz => h4 z (by simp at hz ⊢; exact hz.symm), d, chain_append.2 ⟨c, h7, h6⟩⟩
theorem lsum_rot : lsum rs (B ++ A) = lsum rs (A ++ B) := by rw [lsum_append, lsum_append]; omega
theorem mem_back : z ∈ back L ↔ -z ∈ L := by
  unfold back
  rw [List.mem_reverse, List.mem_map]
  constructor
  · rintro ⟨y, hy, rfl⟩; simpa using hy
  · intro h; exact ⟨-z, h, by omega⟩
theorem isL_back (h : IsL n rs L) : IsL n rs (back L) := by
  obtain ⟨h1, h2, h3, h4, c, h5⟩ := h
  exact ⟨h1, by rw [back_len]; exact h2, by rw [back_len]; exact h3, fun z hz => by have := h4 _ (mem_back.1 hz); omega, c, chain_back (fun z hz => (h4 z hz).1) h5⟩
theorem IsL.back_sum (h : IsL n rs L) : lsum rs (back L) = -lsum rs L := lsum_back (fun z hz => (h.rng z hz).1)
/-- a loop and the same turned, behind each other -/
theorem isL_both (h : IsL n rs L) (hl : L.length + L.length ≤ 12) : IsL n rs (L ++ back L) ∧ lsum rs (L ++ back L) = 0 := by
  have hb := h.back_sum
  have h' := isL_back h
  obtain ⟨h1, h2, h3, h4, c, h5⟩ := h
  exact ⟨⟨h1, by simp; omega, by rw [List.length_append, back_len]; exact hl, fun z hz => (List.mem_append.1 hz).elim (h4 z) (h'.rng z), c, chain_append.2 ⟨c, h5, chain_back (fun z hz => (h4 z hz).1) h5⟩⟩, by rw [lsum_append, hb]; omega⟩
/-- which runs a loop names -/
theorem IsL.run (h : IsL n rs L) (hz : z ∈ L) : 0 ≤ ix z ∧ ix z < rs.length ∧ runOf rs (ix z) ∈ rs := by
  obtain ⟨a, b, c⟩ := h.rng z hz
  have h0 : 0 ≤ ix z := by unfold ix; omega
  have h1 : ix z < rs.length := by unfold ix; omega
  exact ⟨h0, h1, List.mem_of_getElem? (runOf_at h0 h1)⟩
/-- with the rises of heights no loop has an error -/
theorem IsL.flat {P : Int → Int} (h : IsL n rs L) (hP : ∀ r ∈ rs, P r.t - P r.f = r.s) : lsum rs L = 0 := by
  obtain ⟨c, hc⟩ := h.loop
  rw [lsum_pot (P := P) (fun z hz => hP _ (h.run hz).2.2) hc]; omega
theorem trail_len (ht : Trail rs T a L b) : L.length ≤ T.length := by
  have := ht.2.1.length_le_of_subset (l₂ := T) (fun x hx => by obtain ⟨z, hz, rfl⟩ := List.mem_map.1 hx; exact ht.1 z hz)
  simpa using this

/-! the loop of a run -/
noncomputable def chosen (p : List Int → Prop) : List Int := open Classical in if h : ∃ L, p L then Classical.choose h else []
noncomputable def wayT (rs : List Rn) (T : List Int) (a b : Int) : List Int := chosen (fun L => Trail rs T a L b)
theorem wayT_is (h : ∃ L, Trail rs T a L b) : Trail rs T a (wayT rs T a b) b := by unfold wayT chosen; rw [dif_pos h]; exact Classical.choose_spec h
theorem wayT_of (ht : IsTree N rs T) (h : Trail rs T a L b) : wayT rs T a b = L := trail_unique ht (wayT_is ⟨L, h⟩) h
noncomputable def loopT (N : Nat) (rs : List Rn) (k : Nat) : List Int := ((k : Int) + 1) :: wayT rs (firstT N rs rs.length) (runOf rs k).t (runOf rs k).f
theorem way_ends (hw : nWhole N rs = true) (ht : IsTree N rs T) (hk : k < rs.length) : Trail rs T (runOf rs k).t (wayT rs T (runOf rs k).t (runOf rs k).f) (runOf rs k).f := by
  have hr := List.mem_of_getElem? (runOf_at (rs := rs) (z := (k : Int)) (by omega) (by omega))
  obtain ⟨a, b, c, d⟩ := nOk_ends (whole_iff.1 hw).1 _ hr
  have := trail_some ht (i := (runOf rs k).t.toNat) (j := (runOf rs k).f.toNat) (by omega) (by omega)
  rw [show (((runOf rs k).t.toNat : Nat) : Int) = (runOf rs k).t by omega, show (((runOf rs k).f.toNat : Nat) : Int) = (runOf rs k).f by omega] at this
  exact wayT_is this
theorem ix_up (k : Nat) : ix ((k : Int) + 1) = k := by unfold ix; omega
theorem bg_up (k : Nat) : bg rs ((k : Int) + 1) = (runOf rs k).f := by unfold bg; rw [if_neg (by omega), ix_up]
theorem en_up (k : Nat) : en rs ((k : Int) + 1) = (runOf rs k).t := by unfold en; rw [if_neg (by omega), ix_up]
theorem er_up (k : Nat) : er rs ((k : Int) + 1) = (runOf rs k).s := by unfold er; rw [if_neg (by omega), ix_up]
theorem loopT_is (hw : nWhole N rs = true) (hk : k < rs.length) : IsL N rs (loopT N rs k) := by
  have ht := first_tree hw
  have h := way_ends hw ht hk
  have hl := trail_len h
  have hN := (nOk_true ht.ok).2.1
  have := ht.len
  refine ⟨ht.ok, by simp [loopT], by simp [loopT]; omega, fun z hz => ?_, (runOf rs k).f, ?_⟩
  · rcases List.mem_cons.1 hz with rfl | hz
    · omega
    · have a := h.1 z hz
      have b := ht.asc.rng _ a
      have c := ix_ne ht.asc a
      unfold ix at b
      omega
  · refine ⟨bg_up k, ?_⟩
    rw [en_up]; exact h.2.2
/-- no run is twice in it, and all but the first one are in the tree -/
theorem loopT_runs (hw : nWhole N rs = true) (hk : k < rs.length) (hk' : (k : Int) ∉ firstT N rs rs.length) : ((loopT N rs k).map ix).Nodup ∧ ∀ (i : Nat) (z : Int), (loopT N rs k)[i]? = some z → (ix z ∈ firstT N rs rs.length ↔ 0 < i) := by
  have h := way_ends hw (first_tree hw) hk
  constructor
  · unfold loopT
    rw [List.map_cons, List.nodup_cons, ix_up]
    refine ⟨fun hc => hk' ?_, h.2.1⟩
    obtain ⟨z, hz, e⟩ := List.mem_map.1 hc
    rw [← e]; exact h.1 z hz
  · intro i z hz
    cases i with
    | zero =>
      simp [loopT] at hz; subst hz; rw [ix_up]
      exact ⟨fun hc => absurd hc hk', fun hc => by omega⟩
    | succ i =>
      simp [loopT] at hz
      exact ⟨fun _ => by omega, fun _ => h.1 z (List.mem_of_getElem? hz)⟩
theorem loopT_sum {H : List Int} (hw : nWhole N rs = true) (hk : k < rs.length) (hH : IsHt N (sub rs (firstT N rs rs.length)) H) : lsum rs (loopT N rs k) = (runOf rs k).s - (htAt H (runOf rs k).t - htAt H (runOf rs k).f) := by
  have h := way_ends hw (first_tree hw) hk
  unfold loopT
  rw [lsum_cons, er_up, lsum_pot (P := htAt H) (fun z hz => hH.fit _ (List.mem_map.2 ⟨_, h.1 z hz, rfl⟩)) h.2.2]
  omega

/-! the errors of all runs beside the first tree -/
noncomputable def errsTo (N : Nat) (rs : List Rn) : Nat → List Int
  | 0 => []
  | j + 1 => open Classical in if (j : Int) ∈ firstT N rs rs.length then errsTo N rs j else errsTo N rs j ++ [lsum rs (loopT N rs j)]
noncomputable def errs (N : Nat) (rs : List Rn) : List Int := errsTo N rs rs.length
theorem errsTo_in {j : Nat} (h : (j : Int) ∈ firstT N rs rs.length) : errsTo N rs (j + 1) = errsTo N rs j := by rw [errsTo, if_pos h]
theorem errsTo_out {j : Nat} (h : (j : Int) ∉ firstT N rs rs.length) : errsTo N rs (j + 1) = errsTo N rs j ++ [lsum rs (loopT N rs j)] := by rw [errsTo, if_neg h]
theorem count_up {T : List Int} (hT : T.Pairwise (· < ·)) (j : Nat) : (T.filter (fun x => decide (x < (j : Int) + 1))).length = (T.filter (fun x => decide (x < (j : Int)))).length + (if (j : Int) ∈ T then 1 else 0) := by
  induction T with
  | nil => simp
  | cons x T ih =>
    rw [List.pairwise_cons] at hT
    have ih := ih hT.2
    by_cases h1 : x < (j : Int)
    · have e2 : ¬ (j : Int) = x := by omega
      have em : ((j : Int) ∈ x :: T) ↔ (j : Int) ∈ T := by rw [List.mem_cons]; exact ⟨fun h => h.elim (fun h => absurd h e2) id, .inr⟩
      rw [List.filter_cons_of_pos (by simp; omega), List.filter_cons_of_pos (by simpa using h1), List.length_cons, List.length_cons, ih]
      by_cases hj : (j : Int) ∈ T
      · rw [if_pos hj, if_pos (em.2 hj)]
      · rw [if_neg hj, if_neg (fun h => hj (em.1 h))]
    · have hn : (j : Int) ∉ T := fun hc => by have := hT.1 _ hc; omega
      rw [if_neg hn] at ih
      by_cases h2 : x = (j : Int)
      · rw [List.filter_cons_of_pos (by simp; omega), List.filter_cons_of_neg (by simpa using h1), List.length_cons, ih, if_pos (by rw [h2]; simp)]
      · rw [List.filter_cons_of_neg (by simp; omega), List.filter_cons_of_neg (by simpa using h1), ih, if_neg (by rw [List.mem_cons]; exact fun h => h.elim (fun h => h2 h.symm) hn)]
theorem errsTo_len (ht : (firstT N rs rs.length).Pairwise (· < ·)) : ∀ j : Nat, (errsTo N rs j).length + ((firstT N rs rs.length).filter (fun x => decide (x < (j : Int)))).length = j + ((firstT N rs rs.length).filter (fun x => decide (x < (0 : Int)))).length
  | 0 => by simp [errsTo]
  | j + 1 => by
    have ih := errsTo_len ht j
    have hc := count_up ht j
    by_cases h : (j : Int) ∈ firstT N rs rs.length
    · rw [errsTo_in h]; rw [if_pos h] at hc; simp only [Int.natCast_add, Int.natCast_one]; omega
    · rw [errsTo_out h]; rw [if_neg h] at hc; simp only [Int.natCast_add, Int.natCast_one, List.length_append, List.length_singleton]; omega
/-- there are as many as loops -/
theorem errs_len (hw : nWhole N rs = true) : ((errs N rs).length : Int) = nLoops N rs := by
  have ht := first_tree hw
  have h := errsTo_len ht.asc.up rs.length
  have h1 : ((firstT N rs rs.length).filter (fun x => decide (x < (rs.length : Int)))) = firstT N rs rs.length := List.filter_eq_self.2 (fun x hx => by have := (ht.asc.rng x hx).2; simpa using this)
  have h2 : ((firstT N rs rs.length).filter (fun x => decide (x < (0 : Int)))) = [] := List.filter_eq_nil_iff.2 (fun x hx => by have := (ht.asc.rng x hx).1; simp; omega)
  rw [h1, h2] at h
  obtain ⟨hn, hr⟩ := whole_iff.1 hw
  have hr' : roots (labs N rs) N = 1 := hr
  rw [nLoops_yes hn, hr']
  have := ht.len
  unfold errs
  simp at h
  omega
theorem errsTo_all {p : Int → Prop} : ∀ j : Nat, (∀ e ∈ errsTo N rs j, p e) ↔ ∀ i : Nat, i < j → (i : Int) ∉ firstT N rs rs.length → p (lsum rs (loopT N rs i))
  | 0 => by simp [errsTo]
  | j + 1 => by
    have ih := errsTo_all (p := p) j
    by_cases h : (j : Int) ∈ firstT N rs rs.length
    · rw [errsTo_in h, ih]
      constructor
      · intro hh i hi hn
        by_cases e : i = j
        · subst e; exact absurd h hn
        · exact hh i (by omega) hn
      · intro hh i hi hn; exact hh i (by omega) hn
    · rw [errsTo_out h]
      constructor
      · intro hh i hi hn
        by_cases e : i = j
        · subst e; exact hh _ (by simp)
        · exact ih.1 (fun e he => hh e (List.mem_append_left _ he)) i (by omega) hn
      · intro hh e he
        rcases List.mem_append.1 he with he | he
        · exact ih.2 (fun i hi hn => hh i (by omega) hn) e he
        · simp at he; subst he; exact hh j (by omega) h
/-- no error: the heights of the first tree fit all runs -/
theorem errs_zero {H : List Int} (hw : nWhole N rs = true) (hH : IsHt N (sub rs (firstT N rs rs.length)) H) : (∀ e ∈ errs N rs, e = 0) ↔ ∀ r ∈ rs, htAt H r.t - htAt H r.f = r.s := by
  unfold errs
  rw [errsTo_all]
  constructor
  · intro h r hr
    obtain ⟨i, hi⟩ := List.getElem?_of_mem hr
    have hlt := (List.getElem?_eq_some_iff.1 hi).1
    have er : runOf rs (i : Int) = r := by unfold runOf; simp [hi]
    by_cases hin : (i : Int) ∈ firstT N rs rs.length
    · exact hH.fit r (List.mem_map.2 ⟨i, hin, er⟩)
    · have := h i hlt hin
      rw [loopT_sum hw hlt hH, er] at this
      omega
  · intro h i hi hn
    rw [loopT_sum hw hi hH]
    have := h _ (List.mem_of_getElem? (runOf_at (rs := rs) (z := (i : Int)) (by omega) (by omega)))
    omega
end
end Go.Proofs.Ytimghdffmdcheaa
