/-
  Numbers that nodes share just with those nodes that are linked with them, and what a run more does to them. No function of the program is named.
-/
import Derived.Test.YtimghdffmdcheaaTw
import Derived.Test.YtimghdffmdcheaaNLs
namespace Go.Proofs.Ytimghdffmdcheaa
set_option linter.unusedVariables false

theorem Same.nil {i j : Int} : Same [] i j ↔ i = j :=
  ⟨fun h => ((h (fun k => k = i) (fun r hr => by simp at hr)).1 rfl).symm, by rintro rfl; exact Same.refl _ _⟩
theorem Same.more {us : List Rn} {r : Rn} {i j : Int} : Same (us ++ [r]) i j ↔ Same us i j ∨ (Same us i r.f ∧ Same us r.t j) ∨ (Same us i r.t ∧ Same us r.f j) := by
  constructor
  · intro h
    refine (h (fun k => Same us i k ∨ (Same us i r.f ∧ Same us r.t k) ∨ (Same us i r.t ∧ Same us r.f k)) (fun r' hr' => ?_)).1 (.inl (Same.refl _ _))
    rcases List.mem_append.1 hr' with h' | h'
    · have s := Same.run h'
      have e : ∀ a, Same us a r'.f ↔ Same us a r'.t := fun a => ⟨fun h => h.trans s, fun h => h.trans s.symm⟩
      simp only [e]
    · simp at h'; subst h'
      constructor
      · rintro (h1 | ⟨h1, h2⟩ | ⟨h1, h2⟩)
        · exact .inr (.inl ⟨h1, Same.refl _ _⟩)
        · exact .inl (h1.trans h2.symm)
        · exact .inl h1
      · rintro (h1 | ⟨h1, h2⟩ | ⟨h1, h2⟩)
        · exact .inr (.inr ⟨h1, Same.refl _ _⟩)
        · exact .inl h1
        · exact .inl (h1.trans h2.symm)
  · have hm : ∀ {a b : Int}, Same us a b → Same (us ++ [r]) a b := fun h => h.mono (fun x hx => List.mem_append_left _ hx)
    have hr : Same (us ++ [r]) r.f r.t := Same.run (by simp)
    rintro (h1 | ⟨h1, h2⟩ | ⟨h1, h2⟩)
    · exact hm h1
    · exact ((hm h1).trans hr).trans (hm h2)
    · exact ((hm h1).trans hr.symm).trans (hm h2)

structure Grp (N : Nat) (us : List Rn) (G : List Int) : Prop where
  len : G.length = N
  same : ∀ (i j : Nat) (x y : Int), G[i]? = some x → G[j]? = some y → (x = y ↔ Same us i j)
theorem iota_get {N i : Nat} {x : Int} (h : (iota N)[i]? = some x) : i < N ∧ x = i := by
  unfold iota at h
  rw [List.getElem?_map] at h
  obtain ⟨j, hj, rfl⟩ := Option.map_eq_some_iff.1 h
  have hl := (List.getElem?_eq_some_iff.1 hj).1
  simp at hl
  rw [List.getElem?_range hl] at hj
  cases hj
  exact ⟨hl, rfl⟩
theorem iota_nth {N i : Nat} (h : i < N) : (iota N)[i]? = some (i : Int) := by
  unfold iota
  simp [h]
theorem Grp.start (N : Nat) : Grp N [] (iota N) := ⟨iota_len N, fun i j x y hx hy => by
  obtain ⟨-, rfl⟩ := iota_get hx
  obtain ⟨-, rfl⟩ := iota_get hy
  exact Same.nil.symm⟩
/-- the first k numbers: those that are y become x -/
def reg (x y : Int) (k : Nat) (G : List Int) : List Int := (G.take k).map (fun z => if z = y then x else z) ++ G.drop k
theorem reg_len (x y : Int) (k : Nat) (G : List Int) : (reg x y k G).length = G.length := by
  unfold reg; simp; omega
theorem reg_zero (x y : Int) (G : List Int) : reg x y 0 G = G := by simp [reg]
theorem reg_all (x y : Int) (G : List Int) : reg x y G.length G = G.map (fun z => if z = y then x else z) := by simp [reg]
theorem reg_at {x y : Int} {k : Nat} {G : List Int} {z : Int} (h : G[k]? = some z) : (reg x y k G)[k]? = some z := by
  have hl := (List.getElem?_eq_some_iff.1 h).1
  unfold reg
  rw [List.getElem?_append_right (by simp; omega)]
  simp [show min k G.length = k by omega, h]
theorem reg_set {x y : Int} {k : Nat} {G : List Int} (h : G[k]? = some y) : (reg x y k G).set k x = reg x y (k + 1) G := by
  have hl := (List.getElem?_eq_some_iff.1 h).1
  unfold reg
  rw [List.set_append_right _ _ (by simp; omega), List.take_add_one, h]
  simp [show min k G.length = k by omega]
  rw [List.drop_eq_getElem_cons hl]; rfl
theorem reg_same {x y : Int} {k : Nat} {G : List Int} {z : Int} (h : G[k]? = some z) (hz : z ≠ y) : reg x y k G = reg x y (k + 1) G := by
  have hl := (List.getElem?_eq_some_iff.1 h).1
  have he := (List.getElem?_eq_some_iff.1 h).2
  unfold reg
  rw [List.take_add_one, h, List.drop_eq_getElem_cons hl, he]
  simp [hz]
theorem Grp.join {N : Nat} {us : List Rn} {G : List Int} {r : Rn} {a b : Nat} {x y : Int} (h : Grp N us G) (hf : r.f = a) (ht : r.t = b) (hx : G[a]? = some x) (hy : G[b]? = some y) : Grp N (us ++ [r]) (reg x y N G) := by
  have hl := h.len
  rw [← hl, reg_all]
  refine ⟨by simp, fun i j u v hu hv => ?_⟩
  rw [List.getElem?_map] at hu
  rw [List.getElem?_map] at hv
  obtain ⟨u', hu', rfl⟩ := Option.map_eq_some_iff.1 hu
  obtain ⟨v', hv', rfl⟩ := Option.map_eq_some_iff.1 hv
  rw [Same.more, hf, ht, ← h.same i j u' v' hu' hv', ← h.same i a u' x hu' hx, ← h.same b j y v' hy hv', ← h.same i b u' y hu' hy, ← h.same a j x v' hx hv']
  clear hu hv
  split <;> split <;> omega
/-- a run links two nodes that were not linked -/
theorem Grp.link {N : Nat} {us : List Rn} {G : List Int} {r : Rn} {a b : Nat} {x y : Int} (h : Grp N us G) (hf : r.f = a) (ht : r.t = b) (hx : G[a]? = some x) (hy : G[b]? = some y) : x = y ↔ lab N us r.f = lab N us r.t := by
  have ha := (List.getElem?_eq_some_iff.1 hx).1
  have hb := (List.getElem?_eq_some_iff.1 hy).1
  have hl := h.len
  rw [h.same a b x y hx hy, hf, ht]
  exact (lab_same (by omega) (by omega) (by omega) (by omega)).symm
theorem Free.whole {N : Nat} {us : List Rn} (hn : nOk N us = true) (hf : Free N us) (hl : us.length + 1 = N) : nWhole N us = true :=
  whole_iff.2 ⟨hn, by unfold Free at hf; omega⟩
theorem Free.not_whole {N : Nat} {us vs : List Rn} {r : Rn} (hok : EndsIn N (us ++ r :: vs)) (hl : (us ++ r :: vs).length + 1 = N) (he : lab N us r.f = lab N us r.t) : nWhole N (us ++ r :: vs) = false := by
  apply Bool.eq_false_iff.2
  intro hw
  have h1 := (whole_iff.1 hw).2
  have hf : Free N (us ++ r :: vs) := by unfold Free; omega
  have e : us ++ r :: vs = us ++ [r] ++ vs := by simp
  rw [e] at hf hok
  exact (hf.left hok).ne hok.left he
/-- a tree exactly if its runs link all -/
theorem isT_whole {N : Nat} {rs : List Rn} {T : List Int} (hn : nOk N rs = true) (hl : T.length + 1 = N) (ha : Asc rs.length T) : isT N rs T = nWhole N (sub rs T) := by
  apply Bool.eq_iff_iff.2
  rw [isT_true]
  exact ⟨fun h => h.whole, fun h => ⟨hn, by omega, ha, h⟩⟩
end Go.Proofs.Ytimghdffmdcheaa
