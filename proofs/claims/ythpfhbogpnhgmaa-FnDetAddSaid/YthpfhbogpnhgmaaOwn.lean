/-
  A block of integers that a call has made: what it reads as, and what stores, appends and new memory leave of it; a list of runs laid flat. No function of the program is named.
-/
import Derived.Test.YthpfhbogpnhgmaaNMath
import Derived.Deep.OwnRows
import Derived.Laws.MakeOwn
import Derived.Lib.SmallJoins
namespace Go.Proofs.Ythpfhbogpnhgmaa
open Go.RowKit
set_option linter.unusedVariables false

def ivs (xs : List Int) : List Value := xs.map (.int .i64)
/-- the block g is a row of cap elements of sz cells, the first n of which hold xs -/
def Own (w : World) (g : Nat) (T : TypeId) (sz n cap : Nat) (xs : List Int) : Prop :=
  w.ownsRow g T sz (.slice (some ⟨g, 0, none⟩) n cap) n (ivs xs)
section
variable {w w' : World} {g : Nat} {T : TypeId} {sz n cap : Nat} {xs : List Int}
theorem Own.body (h : Own w g T sz n cap xs) : ∃ cur, w.heap[g]? = some (.cells cur T (0, 0)) ∧ n ≤ cap ∧ cap ≤ maxLen ∧ cur.size = cap * sz ∧ cur.toList.take (n * sz) = ivs xs ∧ xs.length = n * sz := by
  obtain ⟨hl, hn | ⟨g', cap', cur, e, hb, hg, h1, h2, h3, h4⟩⟩ := h
  · simp at hn
  · simp at e
    obtain ⟨rfl, rfl⟩ := e
    exact ⟨cur, hg, h1, h2, h3, h4, by simpa [ivs] using hl⟩
theorem Own.of {cur : Array Value} (h0 : w.heap[g]? = some (.cells cur T (0, 0))) (h1 : n ≤ cap) (h2 : cap ≤ maxLen) (h3 : cur.size = cap * sz) (h4 : cur.toList.take (n * sz) = ivs xs) (h5 : xs.length = n * sz) : Own w g T sz n cap xs :=
  ⟨by simpa [ivs] using h5, .inr ⟨g, cap, cur, rfl, Nat.le_refl _, h0, h1, h2, h3, h4⟩⟩
theorem Own.lt (h : Own w g T sz n cap xs) : g < w.heap.size := by
  obtain ⟨cur, hg, _⟩ := h.body
  exact (Array.getElem?_eq_some_iff.1 hg).1
theorem Own.len (h : Own w g T sz n cap xs) : xs.length = n * sz := by obtain ⟨_, _, _, _, _, _, h⟩ := h.body; exact h
theorem Own.cells (h : Own w g T sz n cap xs) {i : Nat} {z : Int} (hi : xs[i]? = some z) : w.cell? ⟨g, i, none⟩ = some (.int .i64 z) := by
  obtain ⟨cur, hg, h1, h2, h3, h4, h5⟩ := h.body
  have hlt := (List.getElem?_eq_some_iff.1 hi).1
  have e : (cur.toList.take (n * sz))[i]? = some (.int .i64 z) := by rw [h4]; simp [ivs, hi]
  rw [List.getElem?_take] at e
  split at e
  · rw [Joins.cell_of_block hg]; simpa using e
  · cases e
theorem Own.frozen (h : Own w g T sz n cap xs) (i : Nat) : w.frozen? ⟨g, i, none⟩ = false := by
  obtain ⟨cur, hg, _⟩ := h.body
  exact Joins.unfrozen_of_block hg i
theorem Own.block (h : Own w g T sz n cap xs) (e : w'.heap[g]? = w.heap[g]?) : Own w' g T sz n cap xs := by
  obtain ⟨cur, hg, h1, h2, h3, h4, h5⟩ := h.body
  exact .of (e.trans hg) h1 h2 h3 h4 h5
theorem Own.below (h : Own w g T sz n cap xs) (hb : Below w.heap.size w w') : Own w' g T sz n cap xs := h.block (hb.block _ h.lt)
theorem Own.grown {g' : Nat} (h : Own w g T sz n cap xs) (hg : w.grownBy w' (some g')) (hne : g ≠ g') : Own w' g T sz n cap xs := h.block (hg.block _ h.lt (by simpa using hne))
theorem Own.alloc (h : Own w g T sz n cap xs) (o : Obj) : Own (w.alloc o) g T sz n cap xs := h.block (Deep.blk_alloc_lt _ _ _ h.lt)
theorem Own.drewN (h : Own w g T sz n cap xs) (k : Nat) : Own (w.drewN k) g T sz n cap xs := h
theorem Own.setOther (h : Own w g T sz n cap xs) {a : Addr} (ha : g ≠ a.block) (v : Value) : Own (w.setCell a v) g T sz n cap xs := h.block (Deep.blk_setCell_other _ _ _ _ ha)
theorem Own.set (h : Own w g T sz n cap xs) (i : Nat) (z : Int) (hi : i < xs.length) : Own (w.setCell ⟨g, i, none⟩ (.int .i64 z)) g T sz n cap (xs.set i z) := by
  obtain ⟨cur, hg, h1, h2, h3, h4, h5⟩ := h.body
  refine .of (Joins.block_setCell hg _) h1 h2 (by simpa using h3) ?_ (by simpa using h5)
  have : (cur.setIfInBounds i (.int .i64 z)).toList.take (n * sz) = (cur.toList.take (n * sz)).set i (.int .i64 z) := by
    rw [Array.toList_setIfInBounds, List.take_set]
  rw [this, h4]
  simp [ivs, List.map_set]
theorem Own.ints (h : Own w g T 1 n cap xs) : Ints w (some ⟨g, 0, none⟩) xs :=
  .inr ⟨g, 0, rfl, h.lt, fun i z hi => by rw [Nat.zero_add]; exact h.cells hi⟩
/-- what an append law wants -/
theorem Own.row (h : Own w g T sz n cap xs) {b : Nat} (hb : b ≤ g) : w.ownsRow b T sz (.slice (some ⟨g, 0, none⟩) n cap) n (ivs xs) := Joins.ownsRow_le h hb
end

/-- runs laid flat -/
def flat : List Rn → List Int
  | [] => []
  | r :: rs => r.f :: r.t :: r.s :: r.g :: flat rs
theorem flat_len : ∀ rs : List Rn, (flat rs).length = rs.length * 4
  | [] => rfl
  | r :: rs => by simp [flat, flat_len rs]; omega
theorem flat_append : ∀ xs ys : List Rn, flat (xs ++ ys) = flat xs ++ flat ys
  | [], bs => rfl
  | r :: xs, ys => by simp [flat, flat_append xs ys]
theorem flat_at : ∀ {rs : List Rn} {i : Nat} {r : Rn}, rs[i]? = some r → (flat rs)[i * 4]? = some r.f ∧ (flat rs)[i * 4 + 1]? = some r.t ∧ (flat rs)[i * 4 + 2]? = some r.s ∧ (flat rs)[i * 4 + 3]? = some r.g
  | [], i, r, h => by simp at h
  | a :: rs, 0, r, h => by simp at h; subst h; simp [flat]
  | a :: rs, i + 1, r, h => by
    have := flat_at (rs := rs) (i := i) (r := r) (by simpa using h)
    simp only [flat, show (i + 1) * 4 = i * 4 + 4 by omega]
    simpa [show i * 4 + 4 = i * 4 + 1 + 1 + 1 + 1 from rfl, show i * 4 + 4 + 1 = i * 4 + 1 + 1 + 1 + 1 + 1 from rfl, show i * 4 + 4 + 2 = i * 4 + 2 + 1 + 1 + 1 + 1 from rfl, show i * 4 + 4 + 3 = i * 4 + 3 + 1 + 1 + 1 + 1 from rfl] using this
theorem flat_set : ∀ {rs : List Rn} {i : Nat} (r : Rn), i < rs.length → flat (rs.set i r) = ((((flat rs).set (i * 4) r.f).set (i * 4 + 1) r.t).set (i * 4 + 2) r.s).set (i * 4 + 3) r.g
  | [], i, r, h => by simp at h
  | a :: rs, 0, r, h => by simp [flat]
  | a :: rs, i + 1, r, h => by
    have := flat_set (rs := rs) (i := i) r (by simpa using h)
    simp only [List.set_cons_succ, flat, show (i + 1) * 4 = i * 4 + 1 + 1 + 1 + 1 by omega]
    rw [this]
section
variable {w w' : World} {g : Nat} {T : TypeId} {n cap : Nat} {rs : List Rn}
theorem Own.runs (h : Own w g T 4 n cap (flat rs)) : Runs w (some ⟨g, 0, none⟩) rs :=
  .inr ⟨g, 0, rfl, h.lt, fun i r hi => by
    obtain ⟨h1, h2, h3, h4⟩ := flat_at hi
    rw [Nat.zero_add]
    exact ⟨h.cells h1, h.cells h2, h.cells h3, h.cells h4⟩⟩
theorem Own.runAt (h : Own w g T 4 n cap (flat rs)) {i : Nat} {r : Rn} (hi : rs[i]? = some r) : RunAt w g (i * 4) r := by
  obtain ⟨h1, h2, h3, h4⟩ := flat_at hi
  exact ⟨h.cells h1, h.cells h2, h.cells h3, h.cells h4⟩
theorem Own.lenR (h : Own w g T 4 n cap (flat rs)) : rs.length = n := by have := h.len; rw [flat_len] at this; omega
theorem Own.set4 (h : Own w g T 4 n cap (flat rs)) {i : Nat} (hi : i < rs.length) (r : Rn) :
    Own ((((w.setCell ⟨g, i * 4, none⟩ (.int .i64 r.f)).setCell ⟨g, i * 4 + 1, none⟩ (.int .i64 r.t)).setCell ⟨g, i * 4 + 2, none⟩ (.int .i64 r.s)).setCell ⟨g, i * 4 + 3, none⟩ (.int .i64 r.g)) g T 4 n cap (flat (rs.set i r)) := by
  have hl := flat_len rs
  rw [flat_set r hi]
  refine (((h.set (i * 4) r.f (by omega)).set (i * 4 + 1) r.t ?_).set (i * 4 + 2) r.s ?_).set (i * 4 + 3) r.g ?_ <;> simp <;> omega
theorem Own.setT (h : Own w g T 4 n cap (flat rs)) {i : Nat} {r : Rn} (hi : rs[i]? = some r) (z : Int) : Own (w.setCell ⟨g, i * 4 + 1, none⟩ (.int .i64 z)) g T 4 n cap (flat (rs.set i { r with t := z })) := by
  have hlt := (List.getElem?_eq_some_iff.1 hi).1
  have hl := flat_len rs
  have := h.set (i * 4 + 1) z (by omega)
  rw [flat_set _ hlt]
  obtain ⟨h1, h2, h3, h4⟩ := flat_at hi
  have e : (flat rs).set (i * 4 + 1) z = (((((flat rs).set (i * 4) r.f).set (i * 4 + 1) z).set (i * 4 + 2) r.s).set (i * 4 + 3) r.g) := by
    apply List.ext_getElem?
    intro j
    simp only [List.getElem?_set]
    by_cases e3 : i * 4 + 3 = j
    · subst e3; simp [h4, hl]; omega
    · by_cases e2 : i * 4 + 2 = j
      · subst e2; simp [h3, hl]; omega
      · by_cases e1 : i * 4 + 1 = j
        · subst e1; simp [hl]
        · by_cases e0 : i * 4 = j
          · subst e0; simp [h1, hl]; omega
          · simp [e0, e1, e2, e3]
  rw [← e]; exact this
end

def fill (k : Nat) (rs : List Rn) : List Rn := rs.take k ++ List.replicate (rs.length - k) ⟨0, 0, 0, 0⟩
theorem fill_zero (rs : List Rn) : fill 0 rs = List.replicate rs.length ⟨0, 0, 0, 0⟩ := by simp [fill]
theorem fill_all (rs : List Rn) : fill rs.length rs = rs := by simp [fill]
theorem fill_len (k : Nat) (rs : List Rn) (h : k ≤ rs.length) : (fill k rs).length = rs.length := by simp [fill]; omega
theorem fill_set {k : Nat} {rs : List Rn} {r : Rn} (h : rs[k]? = some r) : (fill k rs).set k r = fill (k + 1) rs := by
  have hlt := (List.getElem?_eq_some_iff.1 h).1
  unfold fill
  rw [List.set_append_right _ _ (by simp; omega)]
  have e1 : rs.length - k = (rs.length - (k + 1)) + 1 := by omega
  have e2 : k - (rs.take k).length = 0 := by simp; omega
  rw [e2, e1, List.replicate_succ, List.set_cons_zero, List.take_add_one, h]
  simp
def fillI (k : Nat) (zs : List Int) : List Int := zs.take k ++ List.replicate (zs.length - k) 0
theorem fillI_zero (zs : List Int) : fillI 0 zs = List.replicate zs.length 0 := by simp [fillI]
theorem fillI_all (zs : List Int) : fillI zs.length zs = zs := by simp [fillI]
theorem fillI_len (k : Nat) (zs : List Int) (h : k ≤ zs.length) : (fillI k zs).length = zs.length := by simp [fillI]; omega
theorem fillI_set {k : Nat} {zs : List Int} {z : Int} (h : zs[k]? = some z) : (fillI k zs).set k z = fillI (k + 1) zs := by
  have hlt := (List.getElem?_eq_some_iff.1 h).1
  unfold fillI
  rw [List.set_append_right _ _ (by simp; omega)]
  have e1 : zs.length - k = (zs.length - (k + 1)) + 1 := by omega
  have e2 : k - (zs.take k).length = 0 := by simp; omega
  rw [e2, e1, List.replicate_succ, List.set_cons_zero, List.take_add_one, h]
  simp
theorem flat_zeros (n : Nat) : flat (List.replicate n ⟨0, 0, 0, 0⟩) = List.replicate (n * 4) 0 := by
  induction n with
  | zero => rfl
  | succ n ih => rw [List.replicate_succ, flat, ih, show (n + 1) * 4 = n * 4 + 1 + 1 + 1 + 1 by omega]; simp [List.replicate_succ]

/-- what make lays -/
theorem Own.made (w : World) (T : TypeId) (n sz : Nat) (hs : 0 < sz) (hn : n ≤ maxLen) : Own (w.alloc (.cells (madeCells (Array.replicate sz (.int .i64 0)) (n * sz)) T)) w.heap.size T sz n n (List.replicate (n * sz) 0) := by
  refine .of (Deep.blk_alloc_new _ _) (Nat.le_refl _) hn (size_madeCells _ _) ?_ (by simp)
  rw [List.take_of_length_le (by simp [size_madeCells])]
  apply List.ext_getElem?
  intro i
  by_cases h : i < n * sz
  · simp [madeCells, ivs, h, Nat.mod_lt _ hs]
  · simp [madeCells, ivs, h]
/-- what a literal slice lays -/
theorem Own.lit (w : World) (T : TypeId) (xs : List Int) (hn : xs.length ≤ maxLen) : Own (w.alloc (.cells (xs.map (Value.int .i64)).toArray T)) w.heap.size T 1 xs.length xs.length xs := by
  refine .of (Deep.blk_alloc_new _ _) (Nat.le_refl _) hn (by simp) ?_ (by simp)
  rw [List.take_of_length_le (by simp)]
  rfl
end Go.Proofs.Ythpfhbogpnhgmaa
