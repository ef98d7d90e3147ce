/-
  Nodes that are linked, and the least one of those with which a node is linked; two ways to come to it. No function of the program is named.
  What the reference model's labels of linked nodes are.
  A map keyed by integers that the call has made, by what each key holds; a map of slices of integers none of which share memory. No function of the program is named.
  Collecting the nodes that are linked with a node. No function of the program is named.
  The least and the greatest of a list of integers.
-/
import Derived.Test.YtgncjpakclbegaaZf
import Derived.Test.YtgncjpakclbegaaZa
import Derived.Deep.Draws
import Derived.Maps.OwnRows
import Derived.Maps.OwnSet
import Derived.RegionTactic
namespace Go.Proofs.Ytgncjpakclbegaa
set_option linter.unusedVariables false

/-- linked: whatever is alike at both ends of each run is alike at both -/
def Same (rs : List Rn) (i j : Int) : Prop := ∀ g : Int → Prop, (∀ r ∈ rs, (g r.f ↔ g r.t)) → (g i ↔ g j)
theorem Same.refl (rs : List Rn) (i : Int) : Same rs i i := fun _ _ => Iff.rfl
theorem Same.symm {rs : List Rn} {i j : Int} (h : Same rs i j) : Same rs j i := fun g hg => (h g hg).symm
theorem Same.trans {rs : List Rn} {i j k : Int} (h : Same rs i j) (h' : Same rs j k) : Same rs i k := fun g hg => (h g hg).trans (h' g hg)
theorem Same.run {rs : List Rn} {r : Rn} (h : r ∈ rs) : Same rs r.f r.t := fun g hg => hg r h
theorem Same.mono {rs rs' : List Rn} (hs : ∀ r ∈ rs, r ∈ rs') {i j : Int} (h : Same rs i j) : Same rs' i j := fun g hg => h g (fun r hr => hg r (hs r hr))
theorem Same.iff {rs : List Rn} {a b c : Int} (h : Same rs a b) : Same rs a c ↔ Same rs b c := ⟨fun h' => h.symm.trans h', fun h' => h.trans h'⟩

/-- m is the least node that is linked with i -/
structure Lst (n : Int) (rs : List Rn) (i m : Int) : Prop where
  lo : 0 ≤ m
  le : m ≤ i
  same : Same rs m i
  min : ∀ x, 0 ≤ x → x < n → Same rs x i → m ≤ x
theorem Lst.unique {n : Int} {rs : List Rn} {i m m' : Int} (hi : i < n) (h : Lst n rs i m) (h' : Lst n rs i m') : m = m' := by
  have a := h.min m' h'.lo (by have := h'.le; omega) h'.same
  have b := h'.min m h.lo (by have := h.le; omega) h.same
  omega
theorem Lst.of_same {n : Int} {rs : List Rn} {i j m m' : Int} (hi : i < n) (hj : j < n) (h : Lst n rs i m) (h' : Lst n rs j m') (hs : Same rs i j) : m = m' := by
  have a := h.min m' h'.lo (by have := h'.le; omega) (h'.same.trans hs.symm)
  have b := h'.min m h.lo (by have := h.le; omega) (h.same.trans hs)
  omega
/-- the labels of all nodes -/
structure IsLab (n : Int) (rs : List Rn) (L : List Int) : Prop where
  len : (L.length : Int) = n
  lst : ∀ i, 0 ≤ i → i < n → Lst n rs i (htAt L i)
theorem htAt_nat {L : List Int} {i : Nat} {z : Int} (h : L[i]? = some z) : htAt L i = z := by simp [htAt, h]
theorem htAt_get {L : List Int} {x : Int} (h0 : 0 ≤ x) (h1 : x < L.length) : L[x.toNat]? = some (htAt L x) := by
  have hlt : x.toNat < L.length := by omega
  simp [htAt, List.getElem?_eq_getElem hlt]
theorem IsLab.unique {n : Int} {rs : List Rn} {L L' : List Int} (h : IsLab n rs L) (h' : IsLab n rs L') : L = L' := by
  have hl : L.length = L'.length := by have := h.len; have := h'.len; omega
  apply List.ext_getElem? 
  intro i
  by_cases hi : i < L.length
  · have e := h.len
    have a := htAt_get (L := L) (x := i) (by omega) (by omega)
    have b := htAt_get (L := L') (x := i) (by omega) (by omega)
    have := Lst.unique (by omega) (h.lst i (by omega) (by omega)) (h'.lst i (by omega) (by omega))
    rw [Int.toNat_natCast] at a b
    rw [a, b, this]
  · rw [List.getElem?_eq_none (by omega), List.getElem?_eq_none (by omega)]
theorem least_of {p : Int → Prop} {i : Int} (h0 : 0 ≤ i) (hi : p i) : ∃ m, 0 ≤ m ∧ p m ∧ ∀ x, 0 ≤ x → p x → m ≤ x := by
  have key : ∀ (k : Nat), (∃ x : Int, 0 ≤ x ∧ x ≤ k ∧ p x) → ∃ m, 0 ≤ m ∧ p m ∧ ∀ x, 0 ≤ x → p x → m ≤ x := by
    intro k
    induction k with
    | zero =>
      rintro ⟨x, h0, h1, hp⟩
      have : x = 0 := by omega
      subst this
      exact ⟨0, h0, hp, fun x hx _ => hx⟩
    | succ k ih =>
      rintro ⟨x, h0, h1, hp⟩
      by_cases hex : ∃ x : Int, 0 ≤ x ∧ x ≤ k ∧ p x
      · exact ih hex
      · refine ⟨x, h0, hp, fun y hy hpy => ?_⟩
        have : ¬ y ≤ k := fun hk => hex ⟨y, hy, hk, hpy⟩
        omega
  exact key i.toNat ⟨i, h0, by omega, hi⟩
theorem Lst.exists (n : Int) (rs : List Rn) {i : Int} (h0 : 0 ≤ i) (hi : i < n) : ∃ m, Lst n rs i m := by
  obtain ⟨m, h1, h2, h3⟩ := least_of (p := fun x => Same rs x i) h0 (Same.refl _ _)
  exact ⟨m, h1, h3 i h0 (Same.refl _ _), h2, fun x hx _ hs => h3 x hx hs⟩

/-! ### labels that are lowered along the runs, round by round -/
structure Base (n : Int) (rs : List Rn) (L : List Int) : Prop where
  len : (L.length : Int) = n
  lo : ∀ i, 0 ≤ i → i < n → 0 ≤ htAt L i ∧ htAt L i ≤ i
  same : ∀ i, 0 ≤ i → i < n → Same rs (htAt L i) i
/-- c is the least node of those with which it is linked -/
def Root (n : Int) (rs : List Rn) (c : Int) : Prop := 0 ≤ c ∧ c < n ∧ ∀ x, 0 ≤ x → x < n → Same rs x c → c ≤ x
def Shut (rs : List Rn) (L : List Int) (c : Int) : Prop := ∀ r ∈ rs, (htAt L r.f = c ↔ htAt L r.t = c)
def Far (n : Int) (rs : List Rn) (k : Nat) (L : List Int) : Prop := ∀ c, Root n rs c → Shut rs L c ∨ k + 1 ≤ L.count c
def low (L : List Int) (r : Rn) : Int := min (htAt L r.f) (htAt L r.t)
def lower (L : List Int) (r : Rn) : List Int := (L.set r.f.toNat (low L r)).set r.t.toNat (low L r)
theorem lower_len (L : List Int) (r : Rn) : (lower L r).length = L.length := by simp [lower]
theorem lower_at {n : Int} {L : List Int} {r : Rn} (hl : (L.length : Int) = n) (h0 : 0 ≤ r.f) (h1 : r.f < n) (h2 : 0 ≤ r.t) (h3 : r.t < n) {i : Int} (hi : 0 ≤ i) :
    htAt (lower L r) i = if i = r.f ∨ i = r.t then low L r else htAt L i := by
  unfold lower htAt
  simp only [List.getElem?_set, List.length_set]
  by_cases e1 : i = r.t
  · subst e1
    have : r.t.toNat < L.length := by omega
    simp [this]
  · by_cases e2 : i = r.f
    · subst e2
      have : r.f.toNat < L.length := by omega
      have : ¬ r.t.toNat = r.f.toNat := by omega
      simp [*]
    · have a : ¬ r.t.toNat = i.toNat := by omega
      have b : ¬ r.f.toNat = i.toNat := by omega
      simp [a, b, e1, e2]
section
variable {n : Int} {rs : List Rn} (hok : ∀ r ∈ rs, 0 ≤ r.f ∧ r.f < n ∧ 0 ≤ r.t ∧ r.t < n)
include hok
theorem Base.lower {L : List Int} (h : Base n rs L) {r : Rn} (hr : r ∈ rs) : Base n rs (lower L r) := by
  obtain ⟨h0, h1, h2, h3⟩ := hok r hr
  obtain ⟨f0, f1⟩ := h.lo r.f h0 h1
  obtain ⟨t0, t1⟩ := h.lo r.t h2 h3
  have sf := h.same r.f h0 h1
  have st := h.same r.t h2 h3
  have sr := Same.run hr
  have hm : Same rs (low L r) r.f ∧ Same rs (low L r) r.t ∧ 0 ≤ low L r ∧ low L r ≤ r.f ∧ low L r ≤ r.t := by
    unfold low
    rcases Int.le_total (htAt L r.f) (htAt L r.t) with h' | h'
    · rw [Int.min_eq_left h']; exact ⟨sf, sf.trans sr, f0, f1, by omega⟩
    · rw [Int.min_eq_right h']; exact ⟨st.trans sr.symm, st, t0, by omega, t1⟩
  refine ⟨by rw [lower_len]; exact h.len, fun i hi hi' => ?_, fun i hi hi' => ?_⟩ <;> rw [lower_at h.len h0 h1 h2 h3 hi] <;> split
  · rename_i e
    rcases e with rfl | rfl
    · exact ⟨hm.2.2.1, hm.2.2.2.1⟩
    · exact ⟨hm.2.2.1, hm.2.2.2.2⟩
  · exact h.lo i hi hi'
  · rename_i e
    rcases e with rfl | rfl
    · exact hm.1
    · exact hm.2.1
  · exact h.same i hi hi'
omit hok in
theorem root_le {L : List Int} (h : Base n rs L) {c : Int} (hc : Root n rs c) {i : Int} (h0 : 0 ≤ i) (h1 : i < n) (hs : Same rs i c) : c ≤ htAt L i :=
  hc.2.2 _ (h.lo i h0 h1).1 (by have := (h.lo i h0 h1).2; omega) ((h.same i h0 h1).trans hs)
/-- what has the least label keeps it -/
theorem keep_root {L : List Int} (h : Base n rs L) {r : Rn} (hr : r ∈ rs) {c : Int} (hc : Root n rs c) {i : Int} (hi : 0 ≤ i) (hi' : i < n) (he : htAt L i = c) : htAt (lower L r) i = c := by
  obtain ⟨h0, h1, h2, h3⟩ := hok r hr
  rw [lower_at h.len h0 h1 h2 h3 hi]
  split
  · rename_i e
    have sic : Same rs i c := by rw [← he]; exact (h.same i hi hi').symm
    have sr := Same.run hr
    have sfc : Same rs r.f c := by rcases e with rfl | rfl; exact sic; exact sr.trans sic
    have stc : Same rs r.t c := sr.symm.trans sfc
    have a := root_le h hc h0 h1 sfc
    have b := root_le h hc h2 h3 stc
    unfold low
    rcases e with rfl | rfl <;> omega
  · exact he
/-- a run one end of which has the least label gives it to the other -/
theorem give_root {L : List Int} (h : Base n rs L) {r : Rn} (hr : r ∈ rs) {c : Int} (hc : Root n rs c) (he : htAt L r.f = c ∨ htAt L r.t = c) : htAt (lower L r) r.f = c ∧ htAt (lower L r) r.t = c := by
  obtain ⟨h0, h1, h2, h3⟩ := hok r hr
  have e1 : htAt (lower L r) r.f = htAt (lower L r) r.t := by rw [lower_at h.len h0 h1 h2 h3 h0, lower_at h.len h0 h1 h2 h3 h2]; simp
  rcases he with he | he
  · have := keep_root hok h hr hc h0 h1 he; exact ⟨this, by rw [← e1]; exact this⟩
  · have := keep_root hok h hr hc h2 h3 he; exact ⟨by rw [e1]; exact this, this⟩
omit hok in
theorem count_mono {c : Int} : ∀ {L L' : List Int}, L.length = L'.length → (∀ i : Nat, L[i]? = some c → L'[i]? = some c) → L.count c ≤ L'.count c ∧ ((∃ i : Nat, L'[i]? = some c ∧ L[i]? ≠ some c) → L.count c + 1 ≤ L'.count c)
  | [], [], _, _ => ⟨by simp, by rintro ⟨i, h, _⟩; simp at h⟩
  | a :: L, b :: L', hl, h => by
    have ih := count_mono (c := c) (L := L) (L' := L') (by simpa using hl) (fun i hi => by simpa using h (i + 1) (by simpa using hi))
    have h0 : a = c → b = c := fun e => by simpa [e] using h 0
    refine ⟨?_, ?_⟩
    · simp only [List.count_cons]
      by_cases ea : a = c
      · simp [ea, h0 ea]; exact ih.1
      · simp [ea]; have := ih.1; split <;> omega
    · rintro ⟨i, hi, hn⟩
      simp only [List.count_cons]
      cases i with
      | zero =>
        simp at hi hn
        simp [hi, hn]; exact ih.1
      | succ i =>
        simp at hi hn
        have := ih.2 ⟨i, hi, hn⟩
        by_cases ea : a = c
        · simp [ea, h0 ea]; omega
        · simp [ea]; split <;> omega
/-- within a round: L0 are the labels at its head, the first k runs are done -/
structure Round (n : Int) (rs : List Rn) (t k : Nat) (L : List Int) : Prop where
  base : Base n rs L
  from_ : ∃ L0, Base n rs L0 ∧ Far n rs t L0 ∧ (∀ c, Root n rs c → (∀ i, 0 ≤ i → i < n → htAt L0 i = c → htAt L i = c) ∧ ∀ (j : Nat) (r : Rn), j < k → rs[j]? = some r → (htAt L0 r.f = c ∨ htAt L0 r.t = c) → htAt L r.f = c ∧ htAt L r.t = c)
omit hok in
theorem Round.start {t : Nat} {L : List Int} (h : Base n rs L) (hf : Far n rs t L) : Round n rs t 0 L :=
  ⟨h, L, h, hf, fun c _ => ⟨fun _ _ _ e => e, fun j r hj => by omega⟩⟩
theorem Round.step {t k : Nat} {L : List Int} (h : Round n rs t k L) {r : Rn} (hr : rs[k]? = some r) : Round n rs t (k + 1) (_root_.Go.Proofs.Ytgncjpakclbegaa.lower L r) := by
  have hm := List.mem_of_getElem? hr
  obtain ⟨hb, L0, hb0, hf, hc⟩ := h
  refine ⟨hb.lower hok hm, L0, hb0, hf, fun c hroot => ?_⟩
  obtain ⟨h1, h2⟩ := hc c hroot
  refine ⟨fun i hi hi' e => keep_root hok hb hm hroot hi hi' (h1 i hi hi' e), fun j r' hj hr' he => ?_⟩
  by_cases e : j = k
  · subst e
    rw [hr] at hr'; cases hr'
    obtain ⟨q0, q1, q2, q3⟩ := hok r hm
    exact give_root hok hb hm hroot (he.imp (fun e => h1 _ q0 q1 e) (fun e => h1 _ q2 q3 e))
  · obtain ⟨q0, q1, q2, q3⟩ := hok r' (List.mem_of_getElem? hr')
    obtain ⟨a, b⟩ := h2 j r' (by omega) hr' he
    exact ⟨keep_root hok hb hm hroot q0 q1 a, keep_root hok hb hm hroot q2 q3 b⟩
theorem Round.done {t : Nat} {L : List Int} (h : Round n rs t rs.length L) : Base n rs L ∧ Far n rs (t + 1) L := by
  obtain ⟨hb, L0, hb0, hf, hc⟩ := h
  refine ⟨hb, fun c hroot => ?_⟩
  obtain ⟨h1, h2⟩ := hc c hroot
  have hl : L0.length = L.length := by have := hb.len; have := hb0.len; omega
  have hg : ∀ i : Nat, L0[i]? = some c → L[i]? = some c := fun i hi => by
    have hlt := (List.getElem?_eq_some_iff.1 hi).1
    have hl0 := hb0.len
    have e := h1 i (by omega) (by omega) (htAt_nat hi)
    have := htAt_get (L := L) (x := i) (by omega) (by omega)
    rw [e] at this
    simpa using this
  have hcm := count_mono hl hg
  by_cases hs : Shut rs L0 c
  · -- the class is whole: nothing turns
    left
    have hcc : htAt L0 c = c := by
      obtain ⟨c0, c1, cm⟩ := hroot
      have a := (hb0.lo c c0 c1)
      have := cm _ a.1 (by omega) (hb0.same c c0 c1)
      omega
    have hall : ∀ i, 0 ≤ i → i < n → (htAt L i = c ↔ htAt L0 i = c) := fun i hi hi' => by
      refine ⟨fun e => ?_, h1 i hi hi'⟩
      have s : Same rs c i := by rw [← e]; exact hb.same i hi hi'
      exact (s (fun x => htAt L0 x = c) (fun r hr => hs r hr)).1 hcc
    intro r hr
    obtain ⟨q0, q1, q2, q3⟩ := hok r hr
    rw [hall _ q0 q1, hall _ q2 q3]
    exact hs r hr
  · right
    have hk : t + 1 ≤ L0.count c := (hf c hroot).resolve_left hs
    obtain ⟨r, hr, hne⟩ : ∃ r, r ∈ rs ∧ ¬ (htAt L0 r.f = c ↔ htAt L0 r.t = c) := by
      apply Classical.byContradiction
      intro hno
      exact hs fun r hr => Classical.byContradiction fun h' => hno ⟨r, hr, h'⟩
    obtain ⟨j, hj⟩ := List.getElem?_of_mem hr
    have hjl := (List.getElem?_eq_some_iff.1 hj).1
    obtain ⟨q0, q1, q2, q3⟩ := hok r hr
    have hl0 := hb0.len
    have hll := hb.len
    have hget : ∀ x, 0 ≤ x → x < n → htAt L x = c → ¬ htAt L0 x = c → L0.count c + 1 ≤ L.count c := fun x hx hx' e1 e2 => by
      refine hcm.2 ⟨x.toNat, by rw [htAt_get hx (by omega), e1], fun e => e2 ?_⟩
      rw [htAt_get hx (by omega)] at e
      exact Option.some.inj e
    by_cases e : htAt L0 r.f = c
    · have e2 : ¬ htAt L0 r.t = c := fun e2 => hne ⟨fun _ => e2, fun _ => e⟩
      have := hget r.t q2 q3 (h2 j r hjl hj (.inl e)).2 e2
      omega
    · have e2 : htAt L0 r.t = c := by
        apply Classical.byContradiction
        intro e2
        exact hne ⟨fun h => absurd h e, fun h => absurd h e2⟩
      have := hget r.f q0 q1 (h2 j r hjl hj (.inr e2)).1 e
      omega
omit hok in
theorem labels_done {L : List Int} (h : Base n rs L) (hf : Far n rs n.toNat L) : IsLab n rs L := by
  refine ⟨h.len, fun i hi hi' => ?_⟩
  obtain ⟨c, hc⟩ := Lst.exists n rs hi hi'
  have hroot : Root n rs c := ⟨hc.lo, by have := hc.le; omega, fun x hx hx' hs => hc.min x hx hx' (hs.trans hc.same)⟩
  have hl := h.len
  have hs : Shut rs L c := (hf c hroot).resolve_right (fun hk => by have := List.count_le_length (a := c) (l := L); omega)
  have hcc : htAt L c = c := by
    obtain ⟨c0, c1, cm⟩ := hroot
    have a := (h.lo c c0 c1)
    have := cm _ a.1 (by omega) (h.same c c0 c1)
    omega
  have e : htAt L i = c := (hc.same (fun x => htAt L x = c) (fun r hr => hs r hr)).1 hcc
  rw [e]
  exact hc
end
theorem base_start {n : Int} {rs : List Rn} {L : List Int} (hl : (L.length : Int) = n) (h : ∀ (i : Nat) (z : Int), L[i]? = some z → z = i) : Base n rs L ∧ Far n rs 0 L := by
  have hat : ∀ i, 0 ≤ i → i < n → htAt L i = i := fun i h0 h1 => by
    have := h _ _ (htAt_get (L := L) h0 (by omega))
    omega
  refine ⟨⟨hl, fun i h0 h1 => by rw [hat i h0 h1]; omega, fun i h0 h1 => by rw [hat i h0 h1]; exact Same.refl _ _⟩, fun c hc => .inr ?_⟩
  obtain ⟨c0, c1, _⟩ := hc
  have : c ∈ L := by
    have := htAt_get (L := L) c0 (by omega)
    rw [hat c c0 c1] at this
    exact List.mem_of_getElem? this
  have := List.count_pos_iff.2 this
  omega
end Go.Proofs.Ytgncjpakclbegaa
namespace Go.Proofs.Ytgncjpakclbegaa
open Go.RowKit
set_option linter.unusedVariables false

noncomputable def labs (n : Int) (rs : List Rn) : List Int := open Classical in if h : ∃ L, IsLab n rs L then Classical.choose h else []
theorem labs_eq {n : Int} {rs : List Rn} {L : List Int} (h : IsLab n rs L) : L = labs n rs := by
  have hex : ∃ L, IsLab n rs L := ⟨L, h⟩
  unfold labs
  rw [dif_pos hex]
  exact h.unique (Classical.choose_spec hex)
theorem labs_le {N : Nat} {rs : List Rn} : (labs N rs).length ≤ N := by
  by_cases h : ∃ L, IsLab N rs L
  · obtain ⟨L, hL⟩ := h
    rw [← labs_eq hL]
    have := hL.len
    omega
  · unfold labs; rw [dif_neg h]; simp
/-- the answer of a call that makes a new list of integers -/
def NewInts (w : World) (zs : List Int) (v : Value) (w' : World) : Prop :=
  ∃ g cap, v = .slice (some ⟨g, 0, none⟩) zs.length cap ∧ w.heap.size ≤ g ∧ Own w' g 3 1 zs.length cap zs ∧ Below w.heap.size w w'
def iota (k : Nat) : List Int := (List.range k).map Int.ofNat
theorem iota_succ (k : Nat) : iota (k + 1) = iota k ++ [(k : Int)] := by simp [iota, List.range_succ]
theorem iota_len (k : Nat) : (iota k).length = k := by simp [iota]
theorem iota_at {k i : Nat} {z : Int} (h : (iota k)[i]? = some z) : z = i := by
  unfold iota at h
  rw [List.getElem?_map] at h
  obtain ⟨x, hx, rfl⟩ := Option.map_eq_some_iff.1 h
  have := List.getElem?_eq_some_iff.1 hx
  obtain ⟨h1, h2⟩ := this
  simp at h2
  simp [h2]
/-- one cell that was just laid -/
theorem one_cell (w : World) (z : Int) (t : TypeId) : ∀ (j : Nat) (y : Int), [z][j]? = some y → (w.alloc (.cells #[.int .i64 z] t)).cell? ((⟨w.heap.size, 0, none⟩ : Addr).add j) = some (.int .i64 y) := by
  intro j y h
  have := cell_one_new w (.int .i64 z) t j (.int .i64 y) (by
    match j, h with
    | 0, h => simp at h; subst h; rfl)
  exact this
theorem run_min (P : Program) (ts : Array TypeId) (t : TypeId) (a b m : Int) (w : World) (h : min a b = m) : (Builtin.min_ ts t #[.int .i64 a, .int .i64 b]).run P w = .ok (.int .i64 m) w := by
  have e : (if b < a then b else a) = m := by rw [← h]; split <;> omega
  simp [Builtin.min_, Builtin.min2]
  simpa using e
theorem run_max (P : Program) (ts : Array TypeId) (t : TypeId) (a b m : Int) (w : World) (h : max a b = m) : (Builtin.max_ ts t #[.int .i64 a, .int .i64 b]).run P w = .ok (.int .i64 m) w := by
  have e : (if b > a then b else a) = m := by rw [← h]; split <;> omega
  simp [Builtin.max_, Builtin.max2]
  simpa using e

theorem lower_own {w : World} {g T cap N : Nat} {L : List Int} {r : Rn} {a b : Nat} (h : Own w g T 1 N cap L) (ha : r.f = (a : Int)) (hb : r.t = (b : Int)) (h1 : a < N) (h2 : b < N) :
    Own ((w.setCell ⟨g, a, none⟩ (.int .i64 (low L r))).setCell ⟨g, b, none⟩ (.int .i64 (low L r))) g T 1 N cap (lower L r) := by
  have hl := h.len
  have := (h.set a (low L r) (by omega)).set b (low L r) (by simp; omega)
  unfold lower
  rw [ha, hb]
  simpa using this

end Go.Proofs.Ytgncjpakclbegaa
namespace Go.Proofs.Ytgncjpakclbegaa
set_option linter.unusedVariables false
open Go.RowKit Go.Maps

def vR (v : Value) : Option (DataW Value × List MemPlace) := some (.held v, [])
/-- block b of w is a map of at most n entries that holds f i at i, z where there is none -/
def MapV (P : Program) (k : TypeId) (w : World) (b n : Nat) (z : Value) (f : Int → Value) : Prop :=
  ∃ D : DataW Value, w.ownsMap P k vR b n D ∧ ∀ i, D.atKey (.int .i64 i) (.held z) = .held (f i)
def upd {α : Type} (f : Int → α) (x : Int) (v : α) : Int → α := fun i => if i = x then v else f i
theorem upd_same {α : Type} (f : Int → α) (x : Int) (v : α) : upd f x v x = v := by simp [upd]
theorem upd_other {α : Type} (f : Int → α) {x i : Int} (v : α) (h : i ≠ x) : upd f x v i = f i := by simp [upd, h]
section
variable {P : Program} {k e t : TypeId} {w w' : World} {b n : Nat} {z : Value} {f : Int → Value}
theorem MapV.made (w : World) (P : Program) (k : TypeId) (z : Value) : MapV P k (w.alloc (.map #[] 0)) w.heap.size 0 z (fun _ => z) :=
  ⟨.map [], World.ownsMap_made _ _ _ _, fun _ => rfl⟩
theorem MapV.lt (h : MapV P k w b n z f) : b < w.heap.size := by obtain ⟨D, hd, _⟩ := h; exact hd.lt
theorem MapV.kept {row : Option Nat} (h : MapV P k w b n z f) (hg : w.grownBy w' row) (hne : some b ≠ row) : MapV P k w' b n z f := by
  obtain ⟨D, hd, hf⟩ := h
  exact ⟨D, hd.kept hg hne, hf⟩
theorem MapV.block (h : MapV P k w b n z f) (e : w'.heap[b]? = w.heap[b]?) : MapV P k w' b n z f := by
  obtain ⟨D, ⟨es, clock, hb, F, hs, hD⟩, hf⟩ := h
  exact ⟨D, ⟨es, clock, e.trans hb, F, hs, hD⟩, hf⟩
theorem MapV.below (h : MapV P k w b n z f) (hb : Below w.heap.size w w') : MapV P k w' b n z f := h.block (hb.block _ h.lt)
theorem MapV.alloc (h : MapV P k w b n z f) (o : Obj) : MapV P k (w.alloc o) b n z f := h.below ((Below.refl _ _).alloc (Nat.le_refl _) _)
theorem MapV.setOther (h : MapV P k w b n z f) {a : Addr} (ha : b ≠ a.block) (v : Value) : MapV P k (w.setCell a v) b n z f := h.block (Deep.blk_setCell_other _ _ _ _ ha)
theorem MapV.lookup (h : MapV P k w b n z f) (K : Keyed P k) (hk : P.underlying k = some (.int .i64)) (ht : P.underlying t = some (.map k e)) (hz : (zeroValue e).run P w = .ok z w) {x : Int} (hx : (Lit.int .i64 x).wf = true) :
    (Instr.lookup t (.map (some b)) (.int .i64 x) false).run P w = .ok (f x) w := by
  obtain ⟨D, hd, hf⟩ := h
  obtain ⟨v, ps, hrun, hv⟩ := hd.lookup K ht hz (zd := .held z) (zp := []) rfl (keyOf_int_mk hk hx)
  rw [hf x] at hv
  simp only [vR, Option.some.injEq, Prod.mk.injEq, DataW.held.injEq] at hv
  rw [hrun, hv.1]
theorem MapV.update (h : MapV P k w b n z f) (K : Keyed P k) (hk : P.underlying k = some (.int .i64)) (ht : P.underlying t = some (.map k e)) (hn : n < maxLen) {x : Int} (hx : (Lit.int .i64 x).wf = true) (v : Value) :
    ∃ w', (Instr.mapUpdate t (.map (some b)) (.int .i64 x) v).run P w = .ok () w' ∧ MapV P k w' b (n + 1) z (upd f x v) ∧ w.grownBy w' (some b) := by
  obtain ⟨D, hd, hf⟩ := h
  obtain ⟨w', hrun, hd', hg⟩ := hd.update K ht hn (d := .held v) (ps := []) (keyOf_int_mk hk hx) rfl
  refine ⟨w', hrun, ⟨_, hd', fun i => ?_⟩, hg⟩
  by_cases e : i = x
  · subst e
    rw [atKey_put_same (k := .int .i64 i) hd.isMap trivial, upd_same]
  · rw [atKey_put_other (by intro h; cases h; exact e rfl), upd_other _ _ e]
    exact hf i
end

/-- each f x is nil or a slice of the numbers q x in a row of its own beyond block B, none of which is block c -/
structure Nbs (T : TypeId) (w : World) (B c : Nat) (f : Int → Value) (q : Int → List Int) : Prop where
  row : ∀ x, w.ownsRow (B + 1) T 1 (f x) (q x).length (ivs (q x))
  not : ∀ x, (f x).ownBlock ≠ some c
  inj : ∀ x y, (f x).ownBlock = (f y).ownBlock → (f x).ownBlock ≠ none → x = y
section
variable {T : TypeId} {w w' : World} {B c : Nat} {f : Int → Value} {q : Int → List Int}
theorem Nbs.start (T : TypeId) (w : World) (B c : Nat) : Nbs T w B c (fun _ => .slice none 0 0) (fun _ => []) :=
  ⟨fun _ => World.ownsRow_nil _ _ _ _, fun _ => by simp [Value.ownBlock], fun x y _ h => by simp [Value.ownBlock] at h⟩
theorem Nbs.kept {row : Option Nat} (h : Nbs T w B c f q) (hg : w.grownBy w' row) (hne : ∀ x, (f x).ownBlock = none ∨ (f x).ownBlock ≠ row) : Nbs T w' B c f q :=
  ⟨fun x => (h.row x).kept hg (hne x), h.not, h.inj⟩
theorem below_grown {b : Nat} (hb : Below b w w') (hs : w.heap.size ≤ b) : w.grownBy w' none := ⟨hb.os, hb.tape, hb.output, hb.size, fun k hk _ => hb.block k (by omega)⟩
theorem Nbs.below (h : Nbs T w B c f q) (hb : Below w.heap.size w w') : Nbs T w' B c f q := h.kept (below_grown hb (Nat.le_refl _)) (fun x => by cases hv : (f x).ownBlock <;> simp)
theorem Nbs.alloc (h : Nbs T w B c f q) (o : Obj) : Nbs T (w.alloc o) B c f q := h.below ((Below.refl _ _).alloc (Nat.le_refl _) _)
theorem Nbs.drew (h : Nbs T w B c f q) : Nbs T w.drew B c f q := h.below ⟨rfl, rfl, rfl, Nat.le_refl _, fun _ _ => rfl⟩
theorem Nbs.fresh (h : Nbs T w B c f q) {c' : Nat} (hc : w.heap.size ≤ c') : Nbs T w B c' f q :=
  ⟨h.row, fun x e => by have := ((h.row x).lt _ e).2; omega, h.inj⟩
theorem Nbs.atMap (h : Nbs T w B c f q) : Nbs T w B B f q :=
  ⟨h.row, fun x e => by have := ((h.row x).lt _ e).1; omega, h.inj⟩
/-- the map's own block turns -/
theorem Nbs.map (h : Nbs T w B c f q) (hg : w.grownBy w' (some B)) : Nbs T w' B c f q :=
  h.kept hg (fun x => by cases hv : (f x).ownBlock with
    | none => exact .inl rfl
    | some g => right; intro e; simp at e; have := ((h.row x).lt _ hv).1; omega)
theorem Nbs.ints (h : Nbs T w B c f q) (x : Int) : ∃ p cap, f x = .slice p (q x).length cap ∧ Ints w p (q x) := by
  have hr := h.row x
  rcases hr.2 with ⟨hv, h0⟩ | ⟨g, cap, cur, hv, hb, hg, h1, h2, h3, h4⟩
  · refine ⟨none, 0, by rw [hv]; simp [h0], .inl ?_⟩
    exact List.eq_nil_of_length_eq_zero h0
  · refine ⟨_, cap, hv, .inr ⟨g, 0, rfl, (Array.getElem?_eq_some_iff.1 hg).1, fun i z hi => ?_⟩⟩
    have := hr.cells (g := g) (by rw [hv]; rfl) i (.int .i64 z) (by simp [ivs, hi])
    rw [Go.WideShapes.add_plain] at this
    exact this
/-- one more number at x: the append, and what it leaves -/
theorem Nbs.append {P : Program} (h : Nbs T w B c f q) {t ty : TypeId} (ht : P.underlying t = some (.slice T)) (hinfo : (P.info? T).map (fun i => (i.zero, i.size, i.bytes)) = some (some (.int .i64 0), 1, 8)) (x y : Int) (hl : (q x).length ≤ 1000000)
    {b : Nat} (hb : w.cell? ⟨b, 0, none⟩ = some (.int .i64 y)) (hB : B < w.heap.size) (hc : c < w.heap.size) :
    ∃ v' w', (Builtin.append_ #[t, t] ty #[f x, .slice (some ⟨b, 0, none⟩) 1 1]).run P w = .ok v' w' ∧ Nbs T w' B c (upd f x v') (upd q x (q x ++ [y])) ∧ w.grownBy w' (f x).ownBlock := by
  obtain ⟨i, hi, hzz⟩ := Option.map_eq_some_iff.1 hinfo
  simp only [Prod.mk.injEq] at hzz
  obtain ⟨hz, hs', hb8⟩ := hzz
  obtain ⟨v', w', hr, hown, hg, hnil, hloc⟩ := run_append_own_at (P := P) w (B + 1) t ty T i _ 1 8 ht hi hz hs' hb8 rfl (by decide) (f x) _ _ (h.row x) ⟨b, 0, none⟩ 1 1 [.int .i64 y] rfl (by
    intro j u hu
    match j, hu with
    | 0, hu => simp at hu; subst hu; simpa [Addr.add] using hb) (by intro u hu; simp at hu; subst hu; rfl) (by unfold maxLen; omega) (by omega) (by omega)
  have hv' : ∀ z, z ≠ x → v'.ownBlock = (f z).ownBlock → v'.ownBlock ≠ none → False := fun z hzx e hn => by
    rcases hloc with hl | hl
    · exact hzx (h.inj z x (e.symm.trans hl) (by rw [← e]; exact hn))
    · have := ((h.row z).lt w.heap.size (by rw [← e]; exact hl)).2
      omega
  refine ⟨v', w', hr, ⟨fun z => ?_, fun z => ?_, fun z z' => ?_⟩, hg⟩
  · by_cases e : z = x
    · subst e
      rw [upd_same, upd_same]
      have : ivs (q z ++ [y]) = ivs (q z) ++ [.int .i64 y] := by simp [ivs]
      rw [this]
      simpa using hown
    · rw [upd_other _ _ e, upd_other _ _ e]
      refine (h.row z).kept hg ?_
      by_cases hn : (f z).ownBlock = none
      · exact .inl hn
      · exact .inr fun e' => e (h.inj z x e' hn)
  · by_cases e : z = x
    · subst e
      rw [upd_same]
      rcases hloc with hl | hl <;> rw [hl]
      · exact h.not z
      · simp; omega
    · rw [upd_other _ _ e]; exact h.not z
  · intro e hn
    by_cases e1 : z = x <;> by_cases e2 : z' = x
    · rw [e1, e2]
    · subst e1
      rw [upd_same, upd_other _ _ e2] at e
      rw [upd_same] at hn
      exact (hv' z' e2 e hn).elim
    · subst e2
      rw [upd_same, upd_other _ _ e1] at e
      rw [upd_other _ _ e1] at hn
      exact (hv' z e1 e.symm (by rw [← e]; exact hn)).elim
    · rw [upd_other _ _ e1, upd_other _ _ e2] at e
      rw [upd_other _ _ e1] at hn
      exact h.inj z z' e hn
end

/-- an append in a region that draws its order -/
theorem wpOp_append {P : Program} {ops : Array Oper} {Q : Exit → Act → World → Prop} {i : Nat} {o : Oper} {K : Act → World → Prop} {a : Act} {w w' : World} (ho : ops[i]? = some o) (hgd : o.guard = none) (s x : Operand) (t : TypeId)
    (hop : o.op = .call { callee := .builtin .append, args := #[s, x], argTypes := #[t, t] }) {v1 v2 v' : Value} (h1 : a.eval s = v1) (h2 : a.eval x = v2) (hr : (Builtin.append_ #[t, t] o.type #[v1, v2]).run P w = .ok v' w')
    (hK : K (a.put o.dst v') w') : wpOp P ops Q i K a w := by
  refine wpOp_step ho (fun K' hK' => ?_)
  rw [if_pos (by simp [Region.wanted, hgd])]
  unfold Oper.wp execOp
  simp only [hop, resolve, invoke, builtin, Sem.run_bind, Sem.run_pure, Result.andThen_ok, List.map_toArray, List.map_cons, List.map_nil, h1, h2, hr]
  exact hK' _ _ hK
/-- one block that is new may turn -/
theorem below_own {a w w' : World} {row : Option Nat} (h : Below a.heap.size a w) (hg : w.grownBy w' row) (hr : ∀ g, row = some g → a.heap.size ≤ g) : Below a.heap.size a w' :=
  ⟨hg.os.trans h.os, hg.tape.trans h.tape, hg.output.trans h.output, Nat.le_trans h.size hg.size, fun i hi =>
    (hg.block i (Nat.lt_of_lt_of_le hi h.size) (fun e => by have := hr i e.symm; omega)).trans (h.block i hi)⟩
/-- the nodes at the other ends of a node's runs -/
def nb : List Rn → Int → List Int
  | [], _ => []
  | r :: rs, x => (if x = r.f then [r.t] else []) ++ (if x = r.t then [r.f] else []) ++ nb rs x
theorem nb_append (rs rs' : List Rn) (x : Int) : nb (rs ++ rs') x = nb rs x ++ nb rs' x := by
  induction rs with
  | nil => rfl
  | cons r rs ih => simp [nb, ih]
theorem nb_take {rs : List Rn} {k : Nat} {r : Rn} (hr : rs[k]? = some r) (x : Int) : nb (rs.take (k + 1)) x = (nb (rs.take k) x ++ (if x = r.f then [r.t] else [])) ++ (if x = r.t then [r.f] else []) := by
  rw [List.take_add_one, hr, nb_append]
  simp [nb]
theorem nb_len (rs : List Rn) (x : Int) : (nb rs x).length ≤ 2 * rs.length := by
  induction rs with
  | nil => simp [nb]
  | cons r rs ih => simp only [nb, List.length_append, List.length_cons]; split <;> split <;> simp <;> omega
theorem nb_mem {rs : List Rn} {x y : Int} (h : y ∈ nb rs x) : ∃ r ∈ rs, (x = r.f ∧ y = r.t) ∨ (x = r.t ∧ y = r.f) := by
  induction rs with
  | nil => simp [nb] at h
  | cons r rs ih =>
    simp only [nb, List.mem_append] at h
    rcases h with (h | h) | h
    · split at h
      · rename_i e; simp at h; exact ⟨r, by simp, .inl ⟨e, h⟩⟩
      · simp at h
    · split at h
      · rename_i e; simp at h; exact ⟨r, by simp, .inr ⟨e, h⟩⟩
      · simp at h
    · obtain ⟨r', hr', h'⟩ := ih h
      exact ⟨r', by simp [hr'], h'⟩
theorem mem_nb {rs : List Rn} {r : Rn} (h : r ∈ rs) : r.t ∈ nb rs r.f ∧ r.f ∈ nb rs r.t := by
  induction rs with
  | nil => simp at h
  | cons a rs ih =>
    rcases List.mem_cons.1 h with rfl | h
    · simp [nb]
    · have := ih h; simp [nb, this.1, this.2]
end Go.Proofs.Ytgncjpakclbegaa
namespace Go.Proofs.Ytgncjpakclbegaa
set_option linter.unusedVariables false

theorem nodup_len : ∀ (N : Nat) (l : List Int), l.Nodup → (∀ x ∈ l, 0 ≤ x ∧ x < (N : Int)) → l.length ≤ N
  | 0, [], _, _ => by simp
  | 0, a :: l, _, h => by have := h a (by simp); omega
  | N + 1, l, hd, h => by
    by_cases hm : (N : Int) ∈ l
    · have h1 := nodup_len N (l.erase N) (hd.erase _) (fun x hx => by
        have hx' := (List.Nodup.mem_erase_iff hd).1 hx
        have := h x hx'.2
        have := hx'.1
        omega)
      have := List.length_erase_of_mem hm
      omega
    · have := nodup_len N l hd (fun x hx => by
        have h1 := h x hx
        have : x ≠ (N : Int) := fun e => hm (by rw [← e]; exact hx)
        omega)
      omega

structure Bfs (n : Int) (rs : List Rn) (node : Int) (a k : Nat) (F : List Int) : Prop where
  nodup : F.Nodup
  start : node ∈ F
  rng : ∀ x ∈ F, 0 ≤ x ∧ x < n
  same : ∀ x ∈ F, Same rs x node
  done : ∀ (j : Nat) (x : Int), j < a → F[j]? = some x → ∀ y ∈ nb rs x, y ∈ F
  part : ∀ (x : Int) (j : Nat) (y : Int), F[a]? = some x → j < k → (nb rs x)[j]? = some y → y ∈ F
theorem Bfs.first {n : Int} {rs : List Rn} {node : Int} (h0 : 0 ≤ node) (h1 : node < n) : Bfs n rs node 0 0 [node] :=
  ⟨by simp, by simp, fun x hx => by simp at hx; subst hx; exact ⟨h0, h1⟩, fun x hx => by simp at hx; subst hx; exact Same.refl _ _, fun j x hj => by omega, fun x j y _ hj => by omega⟩
section
variable {n : Int} {rs : List Rn} {node : Int} {a k : Nat} {F : List Int}
theorem Bfs.len (h : Bfs n rs node a k F) (hn : 0 ≤ n) : F.length ≤ n.toNat := nodup_len _ _ h.nodup (fun x hx => by have := h.rng x hx; omega)
theorem Bfs.next (h : Bfs n rs node a k F) {x : Int} (hx : F[a]? = some x) (hk : (nb rs x).length ≤ k) : Bfs n rs node (a + 1) 0 F :=
  ⟨h.nodup, h.start, h.rng, h.same, fun j z hj hz y hy => by
    by_cases e : j = a
    · subst e
      rw [hx] at hz; cases hz
      obtain ⟨i, hi⟩ := List.getElem?_of_mem hy
      exact h.part x i y hx (by have := (List.getElem?_eq_some_iff.1 hi).1; omega) hi
    · exact h.done j z (by omega) hz y hy, fun x j y _ hj => by omega⟩
theorem Bfs.seen (h : Bfs n rs node a k F) {x y : Int} (hx : F[a]? = some x) (hy : (nb rs x)[k]? = some y) (hm : y ∈ F) : Bfs n rs node a (k + 1) F :=
  ⟨h.nodup, h.start, h.rng, h.same, h.done, fun x' j y' hx' hj hy' => by
    rw [hx] at hx'; cases hx'
    by_cases e : j = k
    · subst e; rw [hy] at hy'; cases hy'; exact hm
    · exact h.part x j y' hx (by omega) hy'⟩
theorem Bfs.add (hok : ∀ r ∈ rs, 0 ≤ r.f ∧ r.f < n ∧ 0 ≤ r.t ∧ r.t < n) (h : Bfs n rs node a k F) {x y : Int} (hx : F[a]? = some x) (hy : (nb rs x)[k]? = some y) (hm : y ∉ F) : Bfs n rs node a (k + 1) (F ++ [y]) := by
  have hxm := List.mem_of_getElem? hx
  have hal := (List.getElem?_eq_some_iff.1 hx).1
  obtain ⟨r, hr, hxy⟩ := nb_mem (List.mem_of_getElem? hy)
  have hyr : 0 ≤ y ∧ y < n := by
    obtain ⟨q0, q1, q2, q3⟩ := hok r hr
    rcases hxy with ⟨_, rfl⟩ | ⟨_, rfl⟩ <;> exact ⟨by assumption, by assumption⟩
  have hys : Same rs y node := by
    have := Same.run hr
    rcases hxy with ⟨rfl, rfl⟩ | ⟨rfl, rfl⟩
    · exact this.symm.trans (h.same _ hxm)
    · exact this.trans (h.same _ hxm)
  refine ⟨?_, by simp [h.start], fun z hz => ?_, fun z hz => ?_, fun j z hj hz y' hy' => ?_, fun z j y' hz hj hy' => ?_⟩
  · rw [List.nodup_append]
    refine ⟨h.nodup, by simp, fun u hu v hv e => ?_⟩
    simp at hv
    subst hv; subst e
    exact hm hu
  · rcases List.mem_append.1 hz with hz | hz
    · exact h.rng z hz
    · simp at hz; subst hz; exact hyr
  · rcases List.mem_append.1 hz with hz | hz
    · exact h.same z hz
    · simp at hz; subst hz; exact hys
  · rw [List.getElem?_append_left (by omega)] at hz
    exact List.mem_append_left _ (h.done j z hj hz y' hy')
  · rw [List.getElem?_append_left hal] at hz
    rw [hx] at hz; cases hz
    by_cases e : j = k
    · subst e; rw [hy] at hy'; cases hy'; simp
    · exact List.mem_append_left _ (h.part x j y' hx (by omega) hy')
/-- all that are linked with a node -/
structure Cls (n : Int) (rs : List Rn) (node : Int) (F : List Int) : Prop where
  start : node ∈ F
  rng : ∀ x ∈ F, 0 ≤ x ∧ x < n
  same : ∀ x ∈ F, Same rs x node
  all : ∀ x, Same rs x node → x ∈ F
theorem Bfs.cls (h : Bfs n rs node a k F) (ha : F.length ≤ a) : Cls n rs node F :=
  ⟨h.start, h.rng, h.same, fun x hs => by
    have hc : ∀ x ∈ F, ∀ y ∈ nb rs x, y ∈ F := fun x hx y hy => by
      obtain ⟨j, hj⟩ := List.getElem?_of_mem hx
      exact h.done j x (by have := (List.getElem?_eq_some_iff.1 hj).1; omega) hj y hy
    exact (hs (fun x => x ∈ F) (fun r hr => ⟨fun hf => hc _ hf _ (mem_nb hr).1, fun ht => hc _ ht _ (mem_nb hr).2⟩)).2 h.start⟩
theorem Cls.lst (h : Cls n rs node F) {m : Int} (hm : m ∈ F) (hmin : ∀ x ∈ F, m ≤ x) : Lst n rs node m :=
  ⟨(h.rng m hm).1, hmin node h.start, h.same m hm, fun x _ _ hs => hmin x (h.all x hs)⟩
end
end Go.Proofs.Ytgncjpakclbegaa
namespace Go.Proofs.Ytgncjpakclbegaa
open Go.RowKit
set_option linter.unusedVariables false

def MinTo (zs : List Int) (k : Nat) (m : Int) : Prop := m ∈ zs ∧ ∀ (i : Nat) (z : Int), i < k → zs[i]? = some z → m ≤ z
def MaxTo (zs : List Int) (k : Nat) (m : Int) : Prop := m ∈ zs ∧ ∀ (i : Nat) (z : Int), i < k → zs[i]? = some z → z ≤ m
end Go.Proofs.Ytgncjpakclbegaa
