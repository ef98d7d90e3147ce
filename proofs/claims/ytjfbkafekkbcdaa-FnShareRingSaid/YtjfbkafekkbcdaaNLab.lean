/-
  Nodes that are linked, and the least one of those with which a node is linked; two ways to come to it. No function of the program is named.
-/
import Derived.Test.YtjfbkafekkbcdaaNf
namespace Go.Proofs.Ytjfbkafekkbcdaa
set_option linter.unusedVariables false

/-- linked: whatever is alike at both ends of each run is alike at both -/
def Same (rs : List Rn) (i j : Int) : Prop := ∀ g : Int → Prop, (∀ r ∈ rs, (g r.f ↔ g r.t)) → (g i ↔ g j)
theorem Same.refl (rs : List Rn) (i : Int) : Same rs i i := fun _ _ => Iff.rfl
theorem Same.symm {rs : List Rn} {i j : Int} (h : Same rs i j) : Same rs j i := fun g hg => (h g hg).symm
theorem Same.trans {rs : List Rn} {i j k : Int} (h : Same rs i j) (h' : Same rs j k) : Same rs i k := fun g hg => (h g hg).trans (h' g hg)
theorem Same.run {rs : List Rn} {r : Rn} (h : r ∈ rs) : Same rs r.f r.t := fun g hg => hg r h
theorem Same.mono {rs rs' : List Rn} (hs : ∀ r ∈ rs, r ∈ rs') {i j : Int} (h : Same rs i j) : Same rs' i j := fun g hg => h g (fun r hr => hg r (hs r hr))
theorem Same.iff {rs : List Rn} {a b c : Int} (h : Same rs a b) : Same rs a c ↔ Same rs b c := ⟨fun h' => h.symm.trans h', fun h' => h.trans h'⟩

/-- m is the least node that is linked with i -/
structure Lst (n : Int) (rs : List Rn) (i m : Int) : Prop where
  lo : 0 ≤ m
  le : m ≤ i
  same : Same rs m i
  min : ∀ x, 0 ≤ x → x < n → Same rs x i → m ≤ x
theorem Lst.unique {n : Int} {rs : List Rn} {i m m' : Int} (hi : i < n) (h : Lst n rs i m) (h' : Lst n rs i m') : m = m' := by
  have a := h.min m' h'.lo (by have := h'.le; omega) h'.same
  have b := h'.min m h.lo (by have := h.le; omega) h.same
  omega
theorem Lst.of_same {n : Int} {rs : List Rn} {i j m m' : Int} (hi : i < n) (hj : j < n) (h : Lst n rs i m) (h' : Lst n rs j m') (hs : Same rs i j) : m = m' := by
  have a := h.min m' h'.lo (by have := h'.le; omega) (h'.same.trans hs.symm)
  have b := h'.min m h.lo (by have := h.le; omega) (h.same.trans hs)
  omega
/-- the labels of all nodes -/
structure IsLab (n : Int) (rs : List Rn) (L : List Int) : Prop where
  len : (L.length : Int) = n
  lst : ∀ i, 0 ≤ i → i < n → Lst n rs i (htAt L i)
theorem htAt_nat {L : List Int} {i : Nat} {z : Int} (h : L[i]? = some z) : htAt L i = z := by simp [htAt, h]
theorem htAt_get {L : List Int} {x : Int} (h0 : 0 ≤ x) (h1 : x < L.length) : L[x.toNat]? = some (htAt L x) := by
  have hlt : x.toNat < L.length := by omega
  simp [htAt, List.getElem?_eq_getElem hlt]
theorem IsLab.unique {n : Int} {rs : List Rn} {L L' : List Int} (h : IsLab n rs L) (h' : IsLab n rs L') : L = L' := by
  have hl : L.length = L'.length := by have := h.len; have := h'.len; omega
  apply List.ext_getElem? 
  intro i
  by_cases hi : i < L.length
  · have e := h.len
    have a := htAt_get (L := L) (x := i) (by omega) (by omega)
    have b := htAt_get (L := L') (x := i) (by omega) (by omega)
    have := Lst.unique (by omega) (h.lst i (by omega) (by omega)) (h'.lst i (by omega) (by omega))
    rw [Int.toNat_natCast] at a b
    rw [a, b, this]
  · rw [List.getElem?_eq_none (by omega), List.getElem?_eq_none (by omega)]
theorem least_of {p : Int → Prop} {i : Int} (h0 : 0 ≤ i) (hi : p i) : ∃ m, 0 ≤ m ∧ p m ∧ ∀ x, 0 ≤ x → p x → m ≤ x := by
  have key : ∀ (k : Nat), (∃ x : Int, 0 ≤ x ∧ x ≤ k ∧ p x) → ∃ m, 0 ≤ m ∧ p m ∧ ∀ x, 0 ≤ x → p x → m ≤ x := by
    intro k
    induction k with
    | zero =>
      rintro ⟨x, h0, h1, hp⟩
      have : x = 0 := by omega
      subst this
      exact ⟨0, h0, hp, fun x hx _ => hx⟩
    | succ k ih =>
      rintro ⟨x, h0, h1, hp⟩
      by_cases hex : ∃ x : Int, 0 ≤ x ∧ x ≤ k ∧ p x
      · exact ih hex
      · refine ⟨x, h0, hp, fun y hy hpy => ?_⟩
        have : ¬ y ≤ k := fun hk => hex ⟨y, hy, hk, hpy⟩
        omega
  exact key i.toNat ⟨i, h0, by omega, hi⟩
theorem Lst.exists (n : Int) (rs : List Rn) {i : Int} (h0 : 0 ≤ i) (hi : i < n) : ∃ m, Lst n rs i m := by
  obtain ⟨m, h1, h2, h3⟩ := least_of (p := fun x => Same rs x i) h0 (Same.refl _ _)
  exact ⟨m, h1, h3 i h0 (Same.refl _ _), h2, fun x hx _ hs => h3 x hx hs⟩

/-! ### labels that are lowered along the runs, round by round -/
structure Base (n : Int) (rs : List Rn) (L : List Int) : Prop where
  len : (L.length : Int) = n
  lo : ∀ i, 0 ≤ i → i < n → 0 ≤ htAt L i ∧ htAt L i ≤ i
  same : ∀ i, 0 ≤ i → i < n → Same rs (htAt L i) i
/-- c is the least node of those with which it is linked -/
def Root (n : Int) (rs : List Rn) (c : Int) : Prop := 0 ≤ c ∧ c < n ∧ ∀ x, 0 ≤ x → x < n → Same rs x c → c ≤ x
def Shut (rs : List Rn) (L : List Int) (c : Int) : Prop := ∀ r ∈ rs, (htAt L r.f = c ↔ htAt L r.t = c)
def Far (n : Int) (rs : List Rn) (k : Nat) (L : List Int) : Prop := ∀ c, Root n rs c → Shut rs L c ∨ k + 1 ≤ L.count c
def low (L : List Int) (r : Rn) : Int := min (htAt L r.f) (htAt L r.t)
def lower (L : List Int) (r : Rn) : List Int := (L.set r.f.toNat (low L r)).set r.t.toNat (low L r)
theorem lower_len (L : List Int) (r : Rn) : (lower L r).length = L.length := by simp [lower]
theorem lower_at {n : Int} {L : List Int} {r : Rn} (hl : (L.length : Int) = n) (h0 : 0 ≤ r.f) (h1 : r.f < n) (h2 : 0 ≤ r.t) (h3 : r.t < n) {i : Int} (hi : 0 ≤ i) :
    htAt (lower L r) i = if i = r.f ∨ i = r.t then low L r else htAt L i := by
  unfold lower htAt
  simp only [List.getElem?_set, List.length_set]
  by_cases e1 : i = r.t
  · subst e1
    have : r.t.toNat < L.length := by omega
    simp [this]
  · by_cases e2 : i = r.f
    · subst e2
      have : r.f.toNat < L.length := by omega
      have : ¬ r.t.toNat = r.f.toNat := by omega
      simp [*]
    · have a : ¬ r.t.toNat = i.toNat := by omega
      have b : ¬ r.f.toNat = i.toNat := by omega
      simp [a, b, e1, e2]
section
variable {n : Int} {rs : List Rn} (hok : ∀ r ∈ rs, 0 ≤ r.f ∧ r.f < n ∧ 0 ≤ r.t ∧ r.t < n)
include hok
theorem Base.lower {L : List Int} (h : Base n rs L) {r : Rn} (hr : r ∈ rs) : Base n rs (lower L r) := by
  obtain ⟨h0, h1, h2, h3⟩ := hok r hr
  obtain ⟨f0, f1⟩ := h.lo r.f h0 h1
  obtain ⟨t0, t1⟩ := h.lo r.t h2 h3
  have sf := h.same r.f h0 h1
  have st := h.same r.t h2 h3
  have sr := Same.run hr
  have hm : Same rs (low L r) r.f ∧ Same rs (low L r) r.t ∧ 0 ≤ low L r ∧ low L r ≤ r.f ∧ low L r ≤ r.t := by
    unfold low
    rcases Int.le_total (htAt L r.f) (htAt L r.t) with h' | h'
    · rw [Int.min_eq_left h']; exact ⟨sf, sf.trans sr, f0, f1, by omega⟩
    · rw [Int.min_eq_right h']; exact ⟨st.trans sr.symm, st, t0, by omega, t1⟩
  refine ⟨by rw [lower_len]; exact h.len, fun i hi hi' => ?_, fun i hi hi' => ?_⟩ <;> rw [lower_at h.len h0 h1 h2 h3 hi] <;> split
  · rename_i e
    rcases e with rfl | rfl
    · exact ⟨hm.2.2.1, hm.2.2.2.1⟩
    · exact ⟨hm.2.2.1, hm.2.2.2.2⟩
  · exact h.lo i hi hi'
  · rename_i e
    rcases e with rfl | rfl
    · exact hm.1
    · exact hm.2.1
  · exact h.same i hi hi'
omit hok in
theorem root_le {L : List Int} (h : Base n rs L) {c : Int} (hc : Root n rs c) {i : Int} (h0 : 0 ≤ i) (h1 : i < n) (hs : Same rs i c) : c ≤ htAt L i :=
  hc.2.2 _ (h.lo i h0 h1).1 (by have := (h.lo i h0 h1).2; omega) ((h.same i h0 h1).trans hs)
/-- what has the least label keeps it -/
theorem keep_root {L : List Int} (h : Base n rs L) {r : Rn} (hr : r ∈ rs) {c : Int} (hc : Root n rs c) {i : Int} (hi : 0 ≤ i) (hi' : i < n) (he : htAt L i = c) : htAt (lower L r) i = c := by
  obtain ⟨h0, h1, h2, h3⟩ := hok r hr
  rw [lower_at h.len h0 h1 h2 h3 hi]
  split
  · rename_i e
    have sic : Same rs i c := by rw [← he]; exact (h.same i hi hi').symm
    have sr := Same.run hr
    have sfc : Same rs r.f c := by rcases e with rfl | rfl; exact sic; exact sr.trans sic
    have stc : Same rs r.t c := sr.symm.trans sfc
    have a := root_le h hc h0 h1 sfc
    have b := root_le h hc h2 h3 stc
    unfold low
    rcases e with rfl | rfl <;> omega
  · exact he
/-- a run one end of which has the least label gives it to the other -/
theorem give_root {L : List Int} (h : Base n rs L) {r : Rn} (hr : r ∈ rs) {c : Int} (hc : Root n rs c) (he : htAt L r.f = c ∨ htAt L r.t = c) : htAt (lower L r) r.f = c ∧ htAt (lower L r) r.t = c := by
  obtain ⟨h0, h1, h2, h3⟩ := hok r hr
  have e1 : htAt (lower L r) r.f = htAt (lower L r) r.t := by rw [lower_at h.len h0 h1 h2 h3 h0, lower_at h.len h0 h1 h2 h3 h2]; simp
  rcases he with he | he
  · have := keep_root hok h hr hc h0 h1 he; exact ⟨this, by rw [← e1]; exact this⟩
  · have := keep_root hok h hr hc h2 h3 he; exact ⟨by rw [e1]; exact this, this⟩
omit hok in
theorem count_mono {c : Int} : ∀ {L L' : List Int}, L.length = L'.length → (∀ i : Nat, L[i]? = some c → L'[i]? = some c) → L.count c ≤ L'.count c ∧ ((∃ i : Nat, L'[i]? = some c ∧ L[i]? ≠ some c) → L.count c + 1 ≤ L'.count c)
  | [], [], _, _ => ⟨by simp, by rintro ⟨i, h, _⟩; simp at h⟩
  | a :: L, b :: L', hl, h => by
    have ih := count_mono (c := c) (L := L) (L' := L') (by simpa using hl) (fun i hi => by simpa using h (i + 1) (by simpa using hi))
    have h0 : a = c → b = c := fun e => by simpa [e] using h 0
    refine ⟨?_, ?_⟩
    · simp only [List.count_cons]
      by_cases ea : a = c
      · simp [ea, h0 ea]; exact ih.1
      · simp [ea]; have := ih.1; split <;> omega
    · rintro ⟨i, hi, hn⟩
      simp only [List.count_cons]
      cases i with
      | zero =>
        simp at hi hn
        simp [hi, hn]; exact ih.1
      | succ i =>
        simp at hi hn
        have := ih.2 ⟨i, hi, hn⟩
        by_cases ea : a = c
        · simp [ea, h0 ea]; omega
        · simp [ea]; split <;> omega
/-- within a round: L0 are the labels at its head, the first k runs are done -/
structure Round (n : Int) (rs : List Rn) (t k : Nat) (L : List Int) : Prop where
  base : Base n rs L
  from_ : ∃ L0, Base n rs L0 ∧ Far n rs t L0 ∧ (∀ c, Root n rs c → (∀ i, 0 ≤ i → i < n → htAt L0 i = c → htAt L i = c) ∧ ∀ (j : Nat) (r : Rn), j < k → rs[j]? = some r → (htAt L0 r.f = c ∨ htAt L0 r.t = c) → htAt L r.f = c ∧ htAt L r.t = c)
omit hok in
theorem Round.start {t : Nat} {L : List Int} (h : Base n rs L) (hf : Far n rs t L) : Round n rs t 0 L :=
  ⟨h, L, h, hf, fun c _ => ⟨fun _ _ _ e => e, fun j r hj => by omega⟩⟩
theorem Round.step {t k : Nat} {L : List Int} (h : Round n rs t k L) {r : Rn} (hr : rs[k]? = some r) : Round n rs t (k + 1) (_root_.Go.Proofs.Ytjfbkafekkbcdaa.lower L r) := by
  have hm := List.mem_of_getElem? hr
  obtain ⟨hb, L0, hb0, hf, hc⟩ := h
  refine ⟨hb.lower hok hm, L0, hb0, hf, fun c hroot => ?_⟩
  obtain ⟨h1, h2⟩ := hc c hroot
  refine ⟨fun i hi hi' e => keep_root hok hb hm hroot hi hi' (h1 i hi hi' e), fun j r' hj hr' he => ?_⟩
  by_cases e : j = k
  · subst e
    rw [hr] at hr'; cases hr'
    obtain ⟨q0, q1, q2, q3⟩ := hok r hm
    exact give_root hok hb hm hroot (he.imp (fun e => h1 _ q0 q1 e) (fun e => h1 _ q2 q3 e))
  · obtain ⟨q0, q1, q2, q3⟩ := hok r' (List.mem_of_getElem? hr')
    obtain ⟨a, b⟩ := h2 j r' (by omega) hr' he
    exact ⟨keep_root hok hb hm hroot q0 q1 a, keep_root hok hb hm hroot q2 q3 b⟩
theorem Round.done {t : Nat} {L : List Int} (h : Round n rs t rs.length L) : Base n rs L ∧ Far n rs (t + 1) L := by
  obtain ⟨hb, L0, hb0, hf, hc⟩ := h
  refine ⟨hb, fun c hroot => ?_⟩
  obtain ⟨h1, h2⟩ := hc c hroot
  have hl : L0.length = L.length := by have := hb.len; have := hb0.len; omega
  have hg : ∀ i : Nat, L0[i]? = some c → L[i]? = some c := fun i hi => by
    have hlt := (List.getElem?_eq_some_iff.1 hi).1
    have hl0 := hb0.len
    have e := h1 i (by omega) (by omega) (htAt_nat hi)
    have := htAt_get (L := L) (x := i) (by omega) (by omega)
    rw [e] at this
    simpa using this
  have hcm := count_mono hl hg
  by_cases hs : Shut rs L0 c
  · -- the class is whole: nothing turns
    left
    have hcc : htAt L0 c = c := by
      obtain ⟨c0, c1, cm⟩ := hroot
      have a := (hb0.lo c c0 c1)
      have := cm _ a.1 (by omega) (hb0.same c c0 c1)
      omega
    have hall : ∀ i, 0 ≤ i → i < n → (htAt L i = c ↔ htAt L0 i = c) := fun i hi hi' => by
      refine ⟨fun e => ?_, h1 i hi hi'⟩
      have s : Same rs c i := by rw [← e]; exact hb.same i hi hi'
      exact (s (fun x => htAt L0 x = c) (fun r hr => hs r hr)).1 hcc
    intro r hr
    obtain ⟨q0, q1, q2, q3⟩ := hok r hr
    rw [hall _ q0 q1, hall _ q2 q3]
    exact hs r hr
  · right
    have hk : t + 1 ≤ L0.count c := (hf c hroot).resolve_left hs
    obtain ⟨r, hr, hne⟩ : ∃ r, r ∈ rs ∧ ¬ (htAt L0 r.f = c ↔ htAt L0 r.t = c) := by
      apply Classical.byContradiction
      intro hno
      exact hs fun r hr => Classical.byContradiction fun h' => hno ⟨r, hr, h'⟩
    obtain ⟨j, hj⟩ := List.getElem?_of_mem hr
    have hjl := (List.getElem?_eq_some_iff.1 hj).1
    obtain ⟨q0, q1, q2, q3⟩ := hok r hr
    have hl0 := hb0.len
    have hll := hb.len
    have hget : ∀ x, 0 ≤ x → x < n → htAt L x = c → ¬ htAt L0 x = c → L0.count c + 1 ≤ L.count c := fun x hx hx' e1 e2 => by
      refine hcm.2 ⟨x.toNat, by rw [htAt_get hx (by omega), e1], fun e => e2 ?_⟩
      rw [htAt_get hx (by omega)] at e
      exact Option.some.inj e
    by_cases e : htAt L0 r.f = c
    · have e2 : ¬ htAt L0 r.t = c := fun e2 => hne ⟨fun _ => e2, fun _ => e⟩
      have := hget r.t q2 q3 (h2 j r hjl hj (.inl e)).2 e2
      omega
    · have e2 : htAt L0 r.t = c := by
        apply Classical.byContradiction
        intro e2
        exact hne ⟨fun h => absurd h e, fun h => absurd h e2⟩
      have := hget r.f q0 q1 (h2 j r hjl hj (.inr e2)).1 e
      omega
omit hok in
theorem labels_done {L : List Int} (h : Base n rs L) (hf : Far n rs n.toNat L) : IsLab n rs L := by
  refine ⟨h.len, fun i hi hi' => ?_⟩
  obtain ⟨c, hc⟩ := Lst.exists n rs hi hi'
  have hroot : Root n rs c := ⟨hc.lo, by have := hc.le; omega, fun x hx hx' hs => hc.min x hx hx' (hs.trans hc.same)⟩
  have hl := h.len
  have hs : Shut rs L c := (hf c hroot).resolve_right (fun hk => by have := List.count_le_length (a := c) (l := L); omega)
  have hcc : htAt L c = c := by
    obtain ⟨c0, c1, cm⟩ := hroot
    have a := (h.lo c c0 c1)
    have := cm _ a.1 (by omega) (h.same c c0 c1)
    omega
  have e : htAt L i = c := (hc.same (fun x => htAt L x = c) (fun r hr => hs r hr)).1 hcc
  rw [e]
  exact hc
end
theorem base_start {n : Int} {rs : List Rn} {L : List Int} (hl : (L.length : Int) = n) (h : ∀ (i : Nat) (z : Int), L[i]? = some z → z = i) : Base n rs L ∧ Far n rs 0 L := by
  have hat : ∀ i, 0 ≤ i → i < n → htAt L i = i := fun i h0 h1 => by
    have := h _ _ (htAt_get (L := L) h0 (by omega))
    omega
  refine ⟨⟨hl, fun i h0 h1 => by rw [hat i h0 h1]; omega, fun i h0 h1 => by rw [hat i h0 h1]; exact Same.refl _ _⟩, fun c hc => .inr ?_⟩
  obtain ⟨c0, c1, _⟩ := hc
  have : c ∈ L := by
    have := htAt_get (L := L) c0 (by omega)
    rw [hat c c0 c1] at this
    exact List.mem_of_getElem? this
  have := List.count_pos_iff.2 this
  omega
end Go.Proofs.Ytjfbkafekkbcdaa
