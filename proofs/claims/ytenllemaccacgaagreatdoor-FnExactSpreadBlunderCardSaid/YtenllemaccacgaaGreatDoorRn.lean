/-
  The mathematics of the laws on spreads. No function of the program is named.
-/
import Derived.Test.YtenllemaccacgaaGreatDoorRm
namespace Go.Proofs.YtenllemaccacgaaGreatDoor
set_option linter.unusedVariables false

/-- the same ends and weights -/
def Shp (rs rs' : List Rn) : Prop := rs.map (fun r => (r.f, r.t, r.g)) = rs'.map (fun r => (r.f, r.t, r.g))
theorem Shp.lsm (G : Int → Int → Int → Int) : ∀ {rs rs' : List Rn}, Shp rs rs' → Go.Proofs.YtenllemaccacgaaGreatDoor.lsm rs (fun r => G r.f r.t r.g) = Go.Proofs.YtenllemaccacgaaGreatDoor.lsm rs' (fun r => G r.f r.t r.g)
  | [], [], _ => rfl
  | [], _ :: _, h => by unfold Shp at h; simp at h
  | _ :: _, [], h => by unfold Shp at h; simp at h
  | r :: rs, r' :: rs', h => by
    unfold Shp at h
    simp only [List.map_cons, List.cons.injEq, Prod.mk.injEq] at h
    simp only [Go.Proofs.YtenllemaccacgaaGreatDoor.lsm]
    rw [Shp.lsm G (rs := rs) (rs' := rs') h.2, h.1.1, h.1.2.1, h.1.2.2]
theorem Shp.lap {rs rs' : List Rn} (h : Shp rs rs') (i j : Nat) : Go.Proofs.YtenllemaccacgaaGreatDoor.lap rs i j = Go.Proofs.YtenllemaccacgaaGreatDoor.lap rs' i j :=
  Shp.lsm (fun f t g => g * (((if t = (i : Int) then 1 else 0) - (if f = (i : Int) then 1 else 0)) * ((if t = (j : Int) then 1 else 0) - (if f = (j : Int) then 1 else 0)))) h |> fun e => by
    have k : ∀ l : List Rn, Go.Proofs.YtenllemaccacgaaGreatDoor.lap l i j = Go.Proofs.YtenllemaccacgaaGreatDoor.lsm l (fun r => r.g * (((if r.t = (i : Int) then 1 else 0) - (if r.f = (i : Int) then 1 else 0)) * ((if r.t = (j : Int) then 1 else 0) - (if r.f = (j : Int) then 1 else 0)))) := fun l => rfl
    rw [k, k]; exact e
theorem Shp.trees {n : Nat} {rs rs' : List Rn} (h : Shp rs rs') (hin : InN (n + 1) rs) (hin' : InN (n + 1) rs') : trN (n + 1) rs = trN (n + 1) rs' := by
  rw [trN_det hin, trN_det hin']
  exact det_congr (fun i j _ _ => h.lap (i + 1) (j + 1))
theorem Shp.spread {n : Nat} {rs rs' : List Rn} (h : Shp rs rs') (hin : InN (n + 2) rs) (hin' : InN (n + 2) rs') {i j : Nat} (hi : i < n + 2) (hj : j < n + 2) : spN (n + 2) rs i j = spN (n + 2) rs' i j := by
  have key : ∀ lo hi, lo < hi → hi < n + 2 → spN (n + 2) rs lo hi = spN (n + 2) rs' lo hi := fun lo hi h1 h2 => by
    rw [← det_spN hin h1 h2, ← det_spN hin' h1 h2]
    exact det_congr (fun x y _ _ => h.lap _ _)
  rcases Nat.lt_trichotomy i j with h | h | h
  · exact key i j h hj
  · subst h; rw [spN_self, spN_self]
  · rw [spN_sym, key j i h hi, spN_sym]
/-- one run more at the end -/
theorem spN_snoc {N i j : Nat} {r : Rn} {rs : List Rn} (hin : InN N rs) (hij : i ≠ j) (hi : i < N) (hj : j < N) (hJ : Joins2 r i j) : spN N (rs ++ [r]) i j = spN N rs i j ∧ trN N (rs ++ [r]) = trN N rs + r.g * spN N rs i j := by
  have hp := spN_perm (N := N) (i := i) (j := j) (List.perm_append_singleton r rs)
  rw [hp.1, hp.2]
  exact spN_cons hin hij hi hj hJ
theorem snoc_ok {N i j : Nat} {rs : List Rn} (hn : nOk (N : Int) rs = true) (hl : rs.length ≤ 11) (hij : i ≠ j) (hi : i < N) (hj : j < N) : nOk (N : Int) (rs ++ [⟨i, j, 0, 1⟩]) = true := by
  obtain ⟨a, b, c, d⟩ := nOk_true hn
  refine nOk_of a b (by simp; omega) (fun k r hr => ?_)
  by_cases hk : k < rs.length
  · rw [List.getElem?_append_left hk] at hr; exact d k r hr
  · have h1 := List.mem_of_getElem? hr
    rw [List.getElem?_append_right (by omega)] at hr
    have h2 := List.mem_of_getElem? hr
    simp at h2
    subst h2
    exact rOk_of (by simp) (by simp; omega) (by simp) (by simp; omega) (by simp; omega) (by simp) (by simp) (by simp) (by simp)
theorem snoc_whole {N i j : Nat} {rs : List Rn} (hw : nWhole (N : Int) rs = true) (hl : rs.length ≤ 11) (hij : i ≠ j) (hi : i < N) (hj : j < N) : nWhole (N : Int) (rs ++ [⟨i, j, 0, 1⟩]) = true := by
  have hn := whole_nok hw
  have h2 := snoc_ok hn hl hij hi hj
  rw [← trN_whole h2, (spN_snoc (nOk_in hn) hij hi hj (.inl ⟨rfl, rfl⟩)).2]
  have := trN_pos1 hw
  have := spN_nn (N := N) (i := i) (j := j) (wgt1 hn)
  show 0 < trN N rs + 1 * spN N rs i j
  omega
theorem more_eq {x1 x2 o1 o2 S D : Int} (h1 : x1 * (D + S) = S * x2) (h2 : o1 * D = S * o2) (hD : D ≠ 0) : x2 * o1 = x1 * (o2 + o1) := by
  apply Int.eq_of_mul_eq_mul_right hD
  grind
/-- two nodes without runs between them but for one -/
theorem spN_two {rs : List Rn} (hin : InN 2 rs) {i j : Nat} (hij : i ≠ j) (hi : i < 2) (hj : j < 2) : spN 2 rs i j = 1 := by
  have key : ∀ lo hi, lo < hi → hi < 2 → spN 2 rs lo hi = 1 := fun lo hi h1 h2 => by
    have := det_spN (n := 0) hin h1 h2
    rw [← this]; rfl
  rcases Nat.lt_or_ge i j with h | h
  · exact key i j h hj
  · rw [spN_sym]; exact key j i (by omega) hi
/-- without a run: whether the net is whole still -/
theorem free_whole {N k : Nat} {r : Rn} {rs : List Rn} (hn : nOk (N : Int) rs = true) (hr : rs[k]? = some r) : trN N (rs.eraseIdx k) = trN N rs - gsp N rs r ∧ (trN N rs - gsp N rs r = 0 ↔ nWhole (N : Int) (rs.eraseIdx k) = false) := by
  have h1 := ok_runs hn r (List.mem_of_getElem? hr)
  have h2 := (spN_erase (nOk_in hn) hr h1.1).2
  have e : trN N (rs.eraseIdx k) = trN N rs - gsp N rs r := by unfold gsp; omega
  refine ⟨e, ?_⟩
  rw [← e]
  have h3 := erase_ok hn k
  have h4 := (trN_low h3).1
  have h5 := trN_whole h3
  cases hw : nWhole (N : Int) (rs.eraseIdx k)
  · rw [hw] at h5
    refine ⟨fun _ => rfl, fun _ => ?_⟩
    have : ¬ 0 < trN N (rs.eraseIdx k) := fun h => by have := h5.1 h; cases this
    omega
  · have := h5.2 hw
    refine ⟨fun h => by omega, fun h => by cases h⟩
/-- a tree: a run at the node i whose other end leads on to j -/
theorem tree_run {N i j : Nat} {rs : List Rn} (hw : nWhole (N : Int) rs = true) (hi : i < N) (hj : j < N) (hij : i ≠ j) :
    ∃ (k u : Nat) (r : Rn), rs[k]? = some r ∧ u < N ∧ Joins2 r i u ∧ Same (rs.eraseIdx k) u j := by
  apply Classical.byContradiction
  intro hno
  have hn := whole_nok hw
  have hsame : Same rs i j := (whole_same hw hi).symm.trans (whole_same hw hj)
  have hC := hsame (fun x => x = (i : Int) ∨ ∃ (k : Nat) (r : Rn) (u : Nat), rs[k]? = some r ∧ u < N ∧ Joins2 r i u ∧ Same (rs.eraseIdx k) x u) (fun r' hr' => by
    obtain ⟨k', hk'⟩ := List.getElem?_of_mem hr'
    obtain ⟨a1, a2, a3, a4, a5⟩ := run_ends hn hk'
    -- one end in, the other end in
    have step : ∀ x y : Int, (x = r'.f ∧ y = r'.t ∨ x = r'.t ∧ y = r'.f) → (x = (i : Int) ∨ ∃ (k : Nat) (r : Rn) (u : Nat), rs[k]? = some r ∧ u < N ∧ Joins2 r i u ∧ Same (rs.eraseIdx k) x u) → (y = (i : Int) ∨ ∃ (k : Nat) (r : Rn) (u : Nat), rs[k]? = some r ∧ u < N ∧ Joins2 r i u ∧ Same (rs.eraseIdx k) y u) := by
      intro x y hxy h
      rcases h with h | ⟨k, r, u, hr, hu, hJ, hs⟩
      · refine .inr ⟨k', r', y.toNat, hk', by omega, ?_, ?_⟩
        · rcases hxy with ⟨e1, e2⟩ | ⟨e1, e2⟩
          · exact .inl ⟨by omega, by omega⟩
          · exact .inr ⟨by omega, by omega⟩
        · have : ((y.toNat : Nat) : Int) = y := by omega
          rw [this]; exact Same.refl _ _
      · by_cases hkk : k' = k
        · subst hkk
          rw [hk'] at hr; cases hr
          rcases hJ with ⟨e1, e2⟩ | ⟨e1, e2⟩ <;> rcases hxy with ⟨f1, f2⟩ | ⟨f1, f2⟩
          · exact .inr ⟨k', r', u, hk', hu, .inl ⟨e1, e2⟩, by rw [f2, e2]; exact Same.refl _ _⟩
          · exact .inl (by omega)
          · exact .inl (by omega)
          · exact .inr ⟨k', r', u, hk', hu, .inr ⟨e1, e2⟩, by rw [f2]; first | (rw [e1]; exact Same.refl _ _) | (rw [e2]; exact Same.refl _ _)⟩
        · have hm : r' ∈ rs.eraseIdx k := by
            rw [List.mem_eraseIdx_iff_getElem?]
            exact ⟨k', hkk, hk'⟩
          refine .inr ⟨k, r, u, hr, hu, hJ, ?_⟩
          rcases hxy with ⟨e1, e2⟩ | ⟨e1, e2⟩
          · rw [e1] at hs; rw [e2]; exact (Same.run hm).symm.trans hs
          · rw [e1] at hs; rw [e2]; exact (Same.run hm).trans hs
    exact ⟨step _ _ (.inl ⟨rfl, rfl⟩), step _ _ (.inr ⟨rfl, rfl⟩)⟩)
  rcases hC.1 (.inl rfl) with h | ⟨k, r, u, hr, hu, hJ, hs⟩
  · exact hij (by omega)
  · exact hno ⟨k, u, r, hr, hu, hJ, hs.symm⟩
/-- along a tree the variances add up -/
theorem tree_step {N i j k u : Nat} {r : Rn} {rs : List Rn} (hw : nWhole (N : Int) rs = true) (hl : rs.length + 1 ≤ N) (hi : i < N) (hj : j < N) (hu : u < N) (hr : rs[k]? = some r) (hJ : Joins2 r i u) (hs : Same (rs.eraseIdx k) u j) :
    ∃ X, trN N rs = r.g * X ∧ spN N rs i j = spN N rs u j + X := by
  have hn := whole_nok hw
  have hne := (ok_runs hn r (List.mem_of_getElem? hr)).1
  have hin := nOk_in hn
  have hin' : InN N (rs.eraseIdx k) := nOk_in (erase_ok hn k)
  have hk := (List.getElem?_eq_some_iff.1 hr).1
  have hp : rs.Perm (r :: rs.eraseIdx k) := erase_perm hr
  have hiu : i ≠ u := by rcases hJ with ⟨e1, e2⟩ | ⟨e1, e2⟩ <;> omega
  -- without the run i and u fall apart
  have hcut : ¬ Same (rs.eraseIdx k) i u := fun hc => by
    have hsp : Spn N S0 (rs.eraseIdx k) := (spn_same (by omega)).2 (fun x hx => by
      have h1 := whole_same hw hx
      intro g hg
      refine h1 g (fun r' hr' => ?_)
      by_cases hm : r' ∈ rs.eraseIdx k
      · exact hg r' hm
      · have : r' = r := by
          have := hp.mem_iff.1 hr'
          rcases List.mem_cons.1 this with e | e
          · exact e
          · exact absurd e hm
        subst this
        have h2 := hc g hg
        rcases hJ with ⟨e1, e2⟩ | ⟨e1, e2⟩
        · rw [e1, e2]; exact h2
        · rw [e1, e2]; exact h2.symm)
    have h2 := Spn.len _ rfl hin' hsp
    rw [List.length_eraseIdx, if_pos hk] at h2
    obtain ⟨M, rfl⟩ : ∃ M, N = M + 1 := ⟨N - 1, by omega⟩
    rw [cnt_S0] at h2
    omega
  have hC : ∀ x ∈ rs.eraseIdx k, (Same (rs.eraseIdx k) i x.f ↔ Same (rs.eraseIdx k) i x.t) := fun x hx => ⟨fun h => h.trans (Same.run hx), fun h => h.trans (Same.run hx).symm⟩
  have hCj : ¬ Same (rs.eraseIdx k) i j := fun h => hcut (h.trans hs.symm)
  have e0 := fun a b => spN_perm (N := N) (i := a) (j := b) hp
  by_cases huj : u = j
  · subst huj
    have h1 := spN_cons (r := r) hin' hiu hi hu hJ
    refine ⟨spN N (rs.eraseIdx k) i u, ?_, ?_⟩
    · rw [(e0 i u).2, h1.2]
      have z : trN N (rs.eraseIdx k) = 0 := by
        have hz := trN_low (erase_ok hn k)
        have hz2 := trN_pos hin' (wgt1 (erase_ok hn k))
        apply Classical.byContradiction
        intro hne0
        have hsp := hz2.1 (by omega)
        have h0 := (spn_same (by omega)).1 hsp
        exact hcut ((h0 i hi).symm.trans (h0 u hu))
      rw [z]; omega
    · rw [(e0 i u).1, h1.1, (e0 u u).1, spN_self]; omega
  · obtain ⟨X, Y, h1, h2, h3, h4⟩ := spN_bridge (C := fun x => Same (rs.eraseIdx k) i x) hin' hJ hC (Same.refl _ _) hcut hCj hi hu hj huj
    exact ⟨X, by rw [(e0 i j).2]; exact h3, by rw [(e0 i j).1, (e0 u j).1, h1, h2]; omega⟩
/-- what is free adds up -/
theorem free_sum {N n : Nat} {rs : List Rn} (hn : nOk (N : Int) rs = true) (hN : N = n + 1) : lsm rs (fun r => trN N rs - gsp N rs r) = ((rs.length : Int) - n) * trN N rs := by
  subst hN
  have h := spN_sum (nOk_in hn) (fun r hr => (ok_runs hn r hr).1)
  have e : lsm rs (fun r => trN (n + 1) rs - gsp (n + 1) rs r) = lsm rs (fun _ => trN (n + 1) rs) - lsm rs (fun r => gsp (n + 1) rs r) := lsm_sub rs _ _
  have e2 : ∀ (l : List Rn) (D : Int), lsm l (fun _ => D) = (l.length : Int) * D := fun l D => by
    induction l with
    | nil => simp [lsm]
    | cons r l ih => simp only [lsm]; rw [ih, List.length_cons, Int.natCast_add, Int.add_mul]; simp; omega
  rw [e, e2, Int.sub_mul]
  have : lsm rs (fun r => gsp (n + 1) rs r) = n * trN (n + 1) rs := h
  omega
end Go.Proofs.YtenllemaccacgaaGreatDoor
