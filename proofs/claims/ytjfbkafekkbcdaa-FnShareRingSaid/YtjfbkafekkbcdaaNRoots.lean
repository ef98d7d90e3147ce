/-
  How many least nodes there are with one run less. No function of the program is named.
-/
import Derived.Test.YtjfbkafekkbcdaaNy
namespace Go.Proofs.Ytjfbkafekkbcdaa
set_option linter.unusedVariables false

theorem roots_ext {L L' : List Int} : ∀ k : Nat, (∀ i : Nat, i < k → (htAt L i = i ↔ htAt L' i = i)) → roots L k = roots L' k
  | 0, _ => rfl
  | k + 1, h => by
    simp only [roots]
    rw [roots_ext k (fun i hi => h i (by omega))]
    by_cases e : htAt L k = k
    · rw [if_pos e, if_pos ((h k (by omega)).1 e)]
    · rw [if_neg e, if_neg (fun e' => e ((h k (by omega)).2 e'))]
/-- one root less, at c -/
theorem roots_drop {L L' : List Int} (c : Nat) : ∀ k : Nat, (∀ i : Nat, i < k → i ≠ c → (htAt L i = i ↔ htAt L' i = i)) → htAt L c = c → htAt L' c ≠ c → c < k → roots L k = roots L' k + 1
  | 0, _, _, _, h => by omega
  | k + 1, h, h1, h2, hc => by
    simp only [roots]
    by_cases e : k = c
    · subst e
      rw [roots_ext (L := L) (L' := L') k (fun i hi => h i (by omega) (by omega)), if_pos h1, if_neg h2]
    · rw [roots_drop c k (fun i hi hne => h i (by omega) hne) h1 h2 (by omega)]
      by_cases e2 : htAt L k = k
      · rw [if_pos e2, if_pos ((h k (by omega) e).1 e2)]; try omega
      · rw [if_neg e2, if_neg (fun e' => e2 ((h k (by omega) e).2 e'))]; try omega

theorem Same.snoc {rs : List Rn} {r : Rn} {i j : Int} (h : Same (rs ++ [r]) i j) (hr : Same rs r.f r.t) : Same rs i j := fun g hg => h g (fun r' hr' => by
  rcases List.mem_append.1 hr' with h' | h'
  · exact hg r' h'
  · simp at h'; subst h'; exact hr g hg)
theorem htAt_map (L : List Int) (f : Int → Int) {i : Int} (h0 : 0 ≤ i) (h1 : i < L.length) : htAt (L.map f) i = f (htAt L i) := by
  have := htAt_get h0 h1
  show ((L.map f)[i.toNat]?).getD 0 = _
  rw [List.getElem?_map, this]
  rfl
section
variable {N : Nat} {rs : List Rn} {r : Rn}
theorem same_more {i j : Int} (h : Same rs i j) : Same (rs ++ [r]) i j := h.mono (fun r' h' => List.mem_append_left _ h')
/-- the run is in a loop: nothing turns -/
theorem labs_loop (h0 : 0 ≤ r.f) (h1 : r.f < N) (h2 : 0 ≤ r.t) (h3 : r.t < N) (he : htAt (labs N rs) r.f = htAt (labs N rs) r.t) : labs N (rs ++ [r]) = labs N rs := by
  have L := labs_is N rs
  have hs : Same rs r.f r.t := (L.lst _ h0 h1).same.symm.trans (by rw [he]; exact (L.lst _ h2 h3).same)
  have : IsLab N (rs ++ [r]) (labs N rs) := ⟨L.len, fun i hi hi' => by
    have := L.lst i hi hi'
    exact ⟨this.lo, this.le, same_more this.same, fun x hx hx' hsx => this.min x hx hx' (hsx.snoc hs)⟩⟩
  exact (labs_eq this).symm
def join (al be : Int) (z : Int) : Int := if z = be then al else z
/-- the run links: what was linked with be is now linked with al -/
theorem labs_link (hok : ∀ r' ∈ rs ++ [r], 0 ≤ r'.f ∧ r'.f < (N : Int) ∧ 0 ≤ r'.t ∧ r'.t < (N : Int)) {al be : Int} (hlt : al < be)
    (he : (htAt (labs N rs) r.f = al ∧ htAt (labs N rs) r.t = be) ∨ (htAt (labs N rs) r.f = be ∧ htAt (labs N rs) r.t = al)) : labs N (rs ++ [r]) = (labs N rs).map (join al be) := by
  have L := labs_is N rs
  have hl := labs_len N rs
  obtain ⟨q0, q1, q2, q3⟩ := hok r (by simp)
  have lf := L.lst _ q0 q1
  have lt := L.lst _ q2 q3
  have hab : Same (rs ++ [r]) al be := by
    have sr : Same (rs ++ [r]) r.f r.t := Same.run (by simp)
    have sf := same_more (r := r) lf.same
    have st := same_more (r := r) lt.same
    rcases he with ⟨e1, e2⟩ | ⟨e1, e2⟩ <;> rw [e1] at sf <;> rw [e2] at st
    · exact (sf.trans sr).trans st.symm
    · exact ((sf.trans sr).trans st.symm).symm
  have hal : 0 ≤ al := by rcases he with ⟨e1, e2⟩ | ⟨e1, e2⟩; exact e1 ▸ lf.lo; exact e2 ▸ lt.lo
  have hm : ∀ i : Int, 0 ≤ i → i < N → htAt ((labs N rs).map (join al be)) i = join al be (htAt (labs N rs) i) := fun i h0 h1 => htAt_map _ _ h0 (by omega)
  have hle : ∀ i : Int, 0 ≤ i → i < N → join al be (htAt (labs N rs) i) ≤ i := fun i h0 h1 => by
    have := (L.lst i h0 h1).le
    unfold join; split <;> omega
  have hconst : ∀ x i : Int, Same (rs ++ [r]) x i → (join al be (htAt (labs N rs) x) = join al be (htAt (labs N rs) i)) := fun x i hs => by
    refine (hs (fun y => join al be (htAt (labs N rs) y) = join al be (htAt (labs N rs) i)) (fun r' hr' => ?_)).2 rfl
    rcases List.mem_append.1 hr' with h' | h'
    · obtain ⟨a0, a1, a2, a3⟩ := hok r' hr'
      have : htAt (labs N rs) r'.f = htAt (labs N rs) r'.t := Lst.of_same a1 a3 (L.lst _ a0 a1) (L.lst _ a2 a3) (Same.run h')
      rw [this]
    · simp at h'; subst h'
      have : join al be (htAt (labs N rs) r'.f) = join al be (htAt (labs N rs) r'.t) := by
        rcases he with ⟨e1, e2⟩ | ⟨e1, e2⟩ <;> rw [e1, e2] <;> unfold join
        · rw [if_neg (by omega), if_pos rfl]
        · rw [if_pos rfl, if_neg (by omega)]
      rw [this]
  have : IsLab N (rs ++ [r]) ((labs N rs).map (join al be)) := ⟨by simp [hl], fun i h0 h1 => by
    rw [hm i h0 h1]
    have li := L.lst i h0 h1
    refine ⟨?_, hle i h0 h1, ?_, fun x hx hx' hs => by rw [← hconst x i hs]; exact hle x hx hx'⟩
    · unfold join; split
      · exact hal
      · exact li.lo
    · unfold join; split
      · rename_i e
        exact hab.trans (by rw [← e]; exact same_more li.same)
      · exact same_more li.same⟩
  exact (labs_eq this).symm
theorem roots_link (hok : ∀ r' ∈ rs ++ [r], 0 ≤ r'.f ∧ r'.f < (N : Int) ∧ 0 ≤ r'.t ∧ r'.t < (N : Int)) (hne : htAt (labs N rs) r.f ≠ htAt (labs N rs) r.t) : roots (labs N rs) N = roots (labs N (rs ++ [r])) N + 1 := by
  have L := labs_is N rs
  have hl := labs_len N rs
  obtain ⟨q0, q1, q2, q3⟩ := hok r (by simp)
  have lf := L.lst _ q0 q1
  have lt := L.lst _ q2 q3
  obtain ⟨al, be, hlt, he⟩ : ∃ al be : Int, al < be ∧ ((htAt (labs N rs) r.f = al ∧ htAt (labs N rs) r.t = be) ∨ (htAt (labs N rs) r.f = be ∧ htAt (labs N rs) r.t = al)) := by
    rcases Int.lt_or_gt_of_ne hne with h | h
    · exact ⟨_, _, h, .inl ⟨rfl, rfl⟩⟩
    · exact ⟨_, _, h, .inr ⟨rfl, rfl⟩⟩
  rw [labs_link hok hlt he]
  have hfix : ∀ z i : Int, 0 ≤ i → i < N → htAt (labs N rs) i = z → 0 ≤ z ∧ z < N ∧ htAt (labs N rs) z = z := fun z i h0 h1 e => by
    have li := L.lst i h0 h1
    rw [e] at li
    have hz := li.lo
    have hz' := li.le
    exact ⟨hz, by omega, Lst.of_same (by omega) h1 (L.lst z hz (by omega)) li li.same⟩
  obtain ⟨⟨a0, a1, aa⟩, ⟨b0, b1, bb⟩⟩ : (0 ≤ al ∧ al < N ∧ htAt (labs N rs) al = al) ∧ (0 ≤ be ∧ be < N ∧ htAt (labs N rs) be = be) := by
    rcases he with ⟨e1, e2⟩ | ⟨e1, e2⟩
    · exact ⟨hfix _ _ q0 q1 e1, hfix _ _ q2 q3 e2⟩
    · exact ⟨hfix _ _ q2 q3 e2, hfix _ _ q0 q1 e1⟩
  obtain ⟨c, rfl⟩ : ∃ c : Nat, be = (c : Int) := ⟨be.toNat, by omega⟩
  have hm : ∀ i : Int, 0 ≤ i → i < N → htAt ((labs N rs).map (join al c)) i = join al c (htAt (labs N rs) i) := fun i h0 h1 => htAt_map _ _ h0 (by omega)
  refine roots_drop c N (fun i hi hic => ?_) bb ?_ (by omega)
  · rw [hm i (by omega) (by omega)]
    unfold join
    split
    · rename_i e
      constructor
      · intro e'; omega
      · intro e'
        rw [← e', aa] at e
        omega
    · exact Iff.rfl
  · rw [hm c b0 b1, bb]
    unfold join
    rw [if_pos rfl]
    omega
end
end Go.Proofs.Ytjfbkafekkbcdaa
