/-
  Collecting the nodes that are linked with a node. No function of the program is named.
-/
import Derived.Test.YtjfbkafekkbcdaaNLab
import Derived.Test.YtjfbkafekkbcdaaMapV
namespace Go.Proofs.Ytjfbkafekkbcdaa
set_option linter.unusedVariables false

theorem nodup_len : ∀ (N : Nat) (l : List Int), l.Nodup → (∀ x ∈ l, 0 ≤ x ∧ x < (N : Int)) → l.length ≤ N
  | 0, [], _, _ => by simp
  | 0, a :: l, _, h => by have := h a (by simp); omega
  | N + 1, l, hd, h => by
    by_cases hm : (N : Int) ∈ l
    · have h1 := nodup_len N (l.erase N) (hd.erase _) (fun x hx => by
        have hx' := (List.Nodup.mem_erase_iff hd).1 hx
        have := h x hx'.2
        have := hx'.1
        omega)
      have := List.length_erase_of_mem hm
      omega
    · have := nodup_len N l hd (fun x hx => by
        have h1 := h x hx
        have : x ≠ (N : Int) := fun e => hm (by rw [← e]; exact hx)
        omega)
      omega

structure Bfs (n : Int) (rs : List Rn) (node : Int) (a k : Nat) (F : List Int) : Prop where
  nodup : F.Nodup
  start : node ∈ F
  rng : ∀ x ∈ F, 0 ≤ x ∧ x < n
  same : ∀ x ∈ F, Same rs x node
  done : ∀ (j : Nat) (x : Int), j < a → F[j]? = some x → ∀ y ∈ nb rs x, y ∈ F
  part : ∀ (x : Int) (j : Nat) (y : Int), F[a]? = some x → j < k → (nb rs x)[j]? = some y → y ∈ F
theorem Bfs.first {n : Int} {rs : List Rn} {node : Int} (h0 : 0 ≤ node) (h1 : node < n) : Bfs n rs node 0 0 [node] :=
  ⟨by simp, by simp, fun x hx => by simp at hx; subst hx; exact ⟨h0, h1⟩, fun x hx => by simp at hx; subst hx; exact Same.refl _ _, fun j x hj => by omega, fun x j y _ hj => by omega⟩
section
variable {n : Int} {rs : List Rn} {node : Int} {a k : Nat} {F : List Int}
theorem Bfs.len (h : Bfs n rs node a k F) (hn : 0 ≤ n) : F.length ≤ n.toNat := nodup_len _ _ h.nodup (fun x hx => by have := h.rng x hx; omega)
theorem Bfs.next (h : Bfs n rs node a k F) {x : Int} (hx : F[a]? = some x) (hk : (nb rs x).length ≤ k) : Bfs n rs node (a + 1) 0 F :=
  ⟨h.nodup, h.start, h.rng, h.same, fun j z hj hz y hy => by
    by_cases e : j = a
    · subst e
      rw [hx] at hz; cases hz
      obtain ⟨i, hi⟩ := List.getElem?_of_mem hy
      exact h.part x i y hx (by have := (List.getElem?_eq_some_iff.1 hi).1; omega) hi
    · exact h.done j z (by omega) hz y hy, fun x j y _ hj => by omega⟩
theorem Bfs.seen (h : Bfs n rs node a k F) {x y : Int} (hx : F[a]? = some x) (hy : (nb rs x)[k]? = some y) (hm : y ∈ F) : Bfs n rs node a (k + 1) F :=
  ⟨h.nodup, h.start, h.rng, h.same, h.done, fun x' j y' hx' hj hy' => by
    rw [hx] at hx'; cases hx'
    by_cases e : j = k
    · subst e; rw [hy] at hy'; cases hy'; exact hm
    · exact h.part x j y' hx (by omega) hy'⟩
theorem Bfs.add (hok : ∀ r ∈ rs, 0 ≤ r.f ∧ r.f < n ∧ 0 ≤ r.t ∧ r.t < n) (h : Bfs n rs node a k F) {x y : Int} (hx : F[a]? = some x) (hy : (nb rs x)[k]? = some y) (hm : y ∉ F) : Bfs n rs node a (k + 1) (F ++ [y]) := by
  have hxm := List.mem_of_getElem? hx
  have hal := (List.getElem?_eq_some_iff.1 hx).1
  obtain ⟨r, hr, hxy⟩ := nb_mem (List.mem_of_getElem? hy)
  have hyr : 0 ≤ y ∧ y < n := by
    obtain ⟨q0, q1, q2, q3⟩ := hok r hr
    rcases hxy with ⟨_, rfl⟩ | ⟨_, rfl⟩ <;> exact ⟨by assumption, by assumption⟩
  have hys : Same rs y node := by
    have := Same.run hr
    rcases hxy with ⟨rfl, rfl⟩ | ⟨rfl, rfl⟩
    · exact this.symm.trans (h.same _ hxm)
    · exact this.trans (h.same _ hxm)
  refine ⟨?_, by simp [h.start], fun z hz => ?_, fun z hz => ?_, fun j z hj hz y' hy' => ?_, fun z j y' hz hj hy' => ?_⟩
  · rw [List.nodup_append]
    refine ⟨h.nodup, by simp, fun u hu v hv e => ?_⟩
    simp at hv
    subst hv; subst e
    exact hm hu
  · rcases List.mem_append.1 hz with hz | hz
    · exact h.rng z hz
    · simp at hz; subst hz; exact hyr
  · rcases List.mem_append.1 hz with hz | hz
    · exact h.same z hz
    · simp at hz; subst hz; exact hys
  · rw [List.getElem?_append_left (by omega)] at hz
    exact List.mem_append_left _ (h.done j z hj hz y' hy')
  · rw [List.getElem?_append_left hal] at hz
    rw [hx] at hz; cases hz
    by_cases e : j = k
    · subst e; rw [hy] at hy'; cases hy'; simp
    · exact List.mem_append_left _ (h.part x j y' hx (by omega) hy')
/-- all that are linked with a node -/
structure Cls (n : Int) (rs : List Rn) (node : Int) (F : List Int) : Prop where
  start : node ∈ F
  rng : ∀ x ∈ F, 0 ≤ x ∧ x < n
  same : ∀ x ∈ F, Same rs x node
  all : ∀ x, Same rs x node → x ∈ F
theorem Bfs.cls (h : Bfs n rs node a k F) (ha : F.length ≤ a) : Cls n rs node F :=
  ⟨h.start, h.rng, h.same, fun x hs => by
    have hc : ∀ x ∈ F, ∀ y ∈ nb rs x, y ∈ F := fun x hx y hy => by
      obtain ⟨j, hj⟩ := List.getElem?_of_mem hx
      exact h.done j x (by have := (List.getElem?_eq_some_iff.1 hj).1; omega) hj y hy
    exact (hs (fun x => x ∈ F) (fun r hr => ⟨fun hf => hc _ hf _ (mem_nb hr).1, fun ht => hc _ ht _ (mem_nb hr).2⟩)).2 h.start⟩
theorem Cls.lst (h : Cls n rs node F) {m : Int} (hm : m ∈ F) (hmin : ∀ x ∈ F, m ≤ x) : Lst n rs node m :=
  ⟨(h.rng m hm).1, hmin node h.start, h.same m hm, fun x _ _ hs => hmin x (h.all x hs)⟩
end
end Go.Proofs.Ytjfbkafekkbcdaa
