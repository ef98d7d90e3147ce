/-
  The first tree of a net is one. No function of the program is named.
-/
import Derived.Test.YtjfbkafekkbcdaaNRoots
namespace Go.Proofs.Ytjfbkafekkbcdaa
set_option linter.unusedVariables false

def runOf (rs : List Rn) (k : Int) : Rn := (rs[k.toNat]?).getD ⟨0, 0, 0, 0⟩
def sub (rs : List Rn) (T : List Int) : List Rn := T.map (runOf rs)
theorem sub_len (rs : List Rn) (T : List Int) : (sub rs T).length = T.length := by simp [sub]
theorem sub_snoc (rs : List Rn) (T : List Int) (k : Nat) {r : Rn} (h : rs[k]? = some r) : sub rs (T ++ [(k : Int)]) = sub rs T ++ [r] := by simp [sub, runOf, h]
theorem runOf_at {rs : List Rn} {z : Int} (h0 : 0 ≤ z) (h1 : z < rs.length) : rs[z.toNat]? = some (runOf rs z) := by
  have hlt : z.toNat < rs.length := by omega
  simp [runOf, List.getElem?_eq_getElem hlt]
structure Asc (n : Nat) (T : List Int) : Prop where
  rng : ∀ z ∈ T, 0 ≤ z ∧ z < (n : Int)
  up : T.Pairwise (· < ·)
theorem Asc.mem_sub {rs : List Rn} {n : Nat} {T : List Int} (h : Asc n T) (hn : n ≤ rs.length) : ∀ r ∈ sub rs T, r ∈ rs := fun r hr => by
  obtain ⟨z, hz, rfl⟩ := List.mem_map.1 hr
  obtain ⟨z0, z1⟩ := h.rng z hz
  exact List.mem_of_getElem? (runOf_at z0 (by omega))
/-- the tree that the first k runs give -/
structure First (N : Nat) (rs : List Rn) (k : Nat) (T : List Int) : Prop where
  asc : Asc k T
  lab : labs N (sub rs T) = labs N (rs.take k)
  cnt : T.length + roots (labs N (sub rs T)) N = N
theorem roots_full {N : Nat} : roots (labs N []) N = N := by
  have : ∀ k : Nat, k ≤ N → roots (labs N []) k = k := by
    intro k
    induction k with
    | zero => intro _; rfl
    | succ k ih =>
      intro hk
      have l := (labs_is N []).lst k (by omega) (by omega)
      have e : htAt (labs N []) k = k := (l.same (fun x => x = (k : Int)) (fun r hr => by simp at hr)).2 rfl
      simp only [roots]
      rw [ih (by omega), if_pos e]
  exact this N (Nat.le_refl _)
theorem First.start (N : Nat) (rs : List Rn) : First N rs 0 [] := ⟨⟨fun z hz => by simp at hz, List.Pairwise.nil⟩, by simp [sub], by simp [sub, roots_full]⟩
section
variable {N : Nat} {rs : List Rn} {k : Nat} {T : List Int} {r : Rn} (hok : ∀ r' ∈ rs, 0 ≤ r'.f ∧ r'.f < (N : Int) ∧ 0 ≤ r'.t ∧ r'.t < (N : Int))
include hok
theorem First.skip (h : First N rs k T) (hr : rs[k]? = some r) (he : htAt (labs N (sub rs T)) r.f = htAt (labs N (sub rs T)) r.t) : First N rs (k + 1) T := by
  obtain ⟨q0, q1, q2, q3⟩ := hok r (List.mem_of_getElem? hr)
  refine ⟨⟨fun z hz => by have := h.asc.rng z hz; omega, h.asc.up⟩, ?_, h.cnt⟩
  have e : rs.take (k + 1) = rs.take k ++ [r] := by rw [List.take_add_one, hr]; rfl
  rw [e, labs_loop q0 q1 q2 q3 (by rw [← h.lab]; exact he)]
  exact h.lab
theorem First.take (h : First N rs k T) (hr : rs[k]? = some r) (hne : htAt (labs N (sub rs T)) r.f ≠ htAt (labs N (sub rs T)) r.t) : First N rs (k + 1) (T ++ [(k : Int)]) := by
  have hk := (List.getElem?_eq_some_iff.1 hr).1
  have hms := h.asc.mem_sub (rs := rs) (by omega)
  have hrm := List.mem_of_getElem? hr
  have hok1 : ∀ r' ∈ sub rs T ++ [r], 0 ≤ r'.f ∧ r'.f < (N : Int) ∧ 0 ≤ r'.t ∧ r'.t < (N : Int) := fun r' hr' => by
    rcases List.mem_append.1 hr' with h' | h'
    · exact hok r' (hms r' h')
    · simp at h'; subst h'; exact hok _ hrm
  have e : rs.take (k + 1) = rs.take k ++ [r] := by rw [List.take_add_one, hr]; rfl
  have hok2 : ∀ r' ∈ rs.take k ++ [r], 0 ≤ r'.f ∧ r'.f < (N : Int) ∧ 0 ≤ r'.t ∧ r'.t < (N : Int) := fun r' hr' => by
    rw [← e] at hr'; exact hok r' (List.mem_of_mem_take hr')
  have hs := sub_snoc rs T k hr
  refine ⟨⟨fun z hz => ?_, ?_⟩, ?_, ?_⟩
  · rcases List.mem_append.1 hz with h' | h'
    · have := h.asc.rng z h'; omega
    · simp at h'; subst h'; omega
  · rw [List.pairwise_append]
    refine ⟨h.asc.up, by simp, fun a ha b hb => ?_⟩
    simp at hb; subst hb
    exact (h.asc.rng a ha).2
  · rw [hs, e]
    obtain ⟨al, be, hlt, hv⟩ : ∃ al be : Int, al < be ∧ ((htAt (labs N (sub rs T)) r.f = al ∧ htAt (labs N (sub rs T)) r.t = be) ∨ (htAt (labs N (sub rs T)) r.f = be ∧ htAt (labs N (sub rs T)) r.t = al)) := by
      rcases Int.lt_or_gt_of_ne hne with h | h
      · exact ⟨_, _, h, .inl ⟨rfl, rfl⟩⟩
      · exact ⟨_, _, h, .inr ⟨rfl, rfl⟩⟩
    rw [labs_link hok1 hlt hv, labs_link hok2 hlt (by rw [← h.lab]; exact hv), h.lab]
  · rw [hs]
    have := roots_link hok1 hne
    have := h.cnt
    simp; omega
end
theorem roots_zero {L : List Int} : ∀ k : Nat, (∀ i : Nat, i < k + 1 → htAt L i = 0) → roots L (k + 1) = 1
  | 0, h => by
    have := h 0 (by omega)
    simp only [roots]
    rw [if_pos (by simpa using this)]
  | k + 1, h => by
    have ih := roots_zero k (fun i hi => h i (by omega))
    rw [roots, ih, if_neg (by have := h (k + 1) (by omega); omega)]
/-- a whole net's first tree has one run less than there are nodes, and is whole -/
theorem First.whole {N : Nat} {rs : List Rn} {T : List Int} (h : First N rs rs.length T) (hw : nWhole N rs = true) : T.length + 1 = N ∧ nWhole N (sub rs T) = true := by
  have hn : nOk N rs = true := by unfold nWhole at hw; simp at hw; exact hw.1
  obtain ⟨h1, h2, h3, h4⟩ := nOk_true hn
  have hlab := h.lab
  rw [List.take_length] at hlab
  have hz : (labs N rs).all (fun z => decide (z = 0)) = true := by unfold nWhole at hw; rw [hn] at hw; simpa using hw
  have hall : ∀ i : Nat, i < N → htAt (labs N rs) i = 0 := fun i hi => by
    have := htAt_get (L := labs N rs) (x := (i : Int)) (by omega) (by rw [labs_len]; omega)
    rw [List.all_eq_true] at hz
    have := hz _ (List.mem_of_getElem? this)
    simpa using this
  obtain ⟨M, rfl⟩ : ∃ M, N = M + 1 := ⟨N - 1, by omega⟩
  have hr := roots_zero M hall
  have hc := h.cnt
  rw [hlab, hr] at hc
  have hlen : T.length = M := by omega
  have hok : nOk ((M + 1 : Nat) : Int) (sub rs T) = true := nOk_of h1 h2 (by rw [sub_len]; omega) (fun i r hi => by
    obtain ⟨j, hj⟩ := List.getElem?_of_mem (h.asc.mem_sub (Nat.le_refl _) r (List.mem_of_getElem? hi))
    exact h4 j r hj)
  exact ⟨by omega, by unfold nWhole; rw [hok, hlab, hz]; rfl⟩
theorem First.sub_ok {N : Nat} {rs : List Rn} {k : Nat} {T : List Int} (h : First N rs k T) (hn : nOk N rs = true) (hk : k ≤ rs.length) : nOk N (sub rs T) = true := by
  obtain ⟨h1, h2, h3, h4⟩ := nOk_true hn
  have := h.cnt
  exact nOk_of h1 h2 (by rw [sub_len]; omega) (fun i r hi => by
    obtain ⟨j, hj⟩ := List.getElem?_of_mem (h.asc.mem_sub hk r (List.mem_of_getElem? hi))
    exact h4 j r hj)
end Go.Proofs.Ytjfbkafekkbcdaa
