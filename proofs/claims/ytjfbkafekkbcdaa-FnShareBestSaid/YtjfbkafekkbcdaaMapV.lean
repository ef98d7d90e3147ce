/-
  A map keyed by integers that the call has made, by what each key holds; a map of slices of integers none of which share memory. No function of the program is named.
-/
import Derived.Test.YtjfbkafekkbcdaaApp
import Derived.Maps.OwnRows
import Derived.Maps.OwnSet
import Derived.Test.YtjfbkafekkbcdaaReg
import Derived.RegionTactic
namespace Go.Proofs.Ytjfbkafekkbcdaa
set_option linter.unusedVariables false
open Go.RowKit Go.Maps

def vR (v : Value) : Option (DataW Value × List MemPlace) := some (.held v, [])
/-- block b of w is a map of at most n entries that holds f i at i, z where there is none -/
def MapV (P : Program) (k : TypeId) (w : World) (b n : Nat) (z : Value) (f : Int → Value) : Prop :=
  ∃ D : DataW Value, w.ownsMap P k vR b n D ∧ ∀ i, D.atKey (.int .i64 i) (.held z) = .held (f i)
def upd {α : Type} (f : Int → α) (x : Int) (v : α) : Int → α := fun i => if i = x then v else f i
theorem upd_same {α : Type} (f : Int → α) (x : Int) (v : α) : upd f x v x = v := by simp [upd]
theorem upd_other {α : Type} (f : Int → α) {x i : Int} (v : α) (h : i ≠ x) : upd f x v i = f i := by simp [upd, h]
section
variable {P : Program} {k e t : TypeId} {w w' : World} {b n : Nat} {z : Value} {f : Int → Value}
theorem MapV.made (w : World) (P : Program) (k : TypeId) (z : Value) : MapV P k (w.alloc (.map #[] 0)) w.heap.size 0 z (fun _ => z) :=
  ⟨.map [], World.ownsMap_made _ _ _ _, fun _ => rfl⟩
theorem MapV.lt (h : MapV P k w b n z f) : b < w.heap.size := by obtain ⟨D, hd, _⟩ := h; exact hd.lt
theorem MapV.kept {row : Option Nat} (h : MapV P k w b n z f) (hg : w.grownBy w' row) (hne : some b ≠ row) : MapV P k w' b n z f := by
  obtain ⟨D, hd, hf⟩ := h
  exact ⟨D, hd.kept hg hne, hf⟩
theorem MapV.block (h : MapV P k w b n z f) (e : w'.heap[b]? = w.heap[b]?) : MapV P k w' b n z f := by
  obtain ⟨D, ⟨es, clock, hb, F, hs, hD⟩, hf⟩ := h
  exact ⟨D, ⟨es, clock, e.trans hb, F, hs, hD⟩, hf⟩
theorem MapV.below (h : MapV P k w b n z f) (hb : Below w.heap.size w w') : MapV P k w' b n z f := h.block (hb.block _ h.lt)
theorem MapV.alloc (h : MapV P k w b n z f) (o : Obj) : MapV P k (w.alloc o) b n z f := h.below ((Below.refl _ _).alloc (Nat.le_refl _) _)
theorem MapV.setOther (h : MapV P k w b n z f) {a : Addr} (ha : b ≠ a.block) (v : Value) : MapV P k (w.setCell a v) b n z f := h.block (Deep.blk_setCell_other _ _ _ _ ha)
theorem MapV.lookup (h : MapV P k w b n z f) (K : Keyed P k) (hk : P.underlying k = some (.int .i64)) (ht : P.underlying t = some (.map k e)) (hz : (zeroValue e).run P w = .ok z w) {x : Int} (hx : (Lit.int .i64 x).wf = true) :
    (Instr.lookup t (.map (some b)) (.int .i64 x) false).run P w = .ok (f x) w := by
  obtain ⟨D, hd, hf⟩ := h
  obtain ⟨v, ps, hrun, hv⟩ := hd.lookup K ht hz (zd := .held z) (zp := []) rfl (keyOf_int_mk hk hx)
  rw [hf x] at hv
  simp only [vR, Option.some.injEq, Prod.mk.injEq, DataW.held.injEq] at hv
  rw [hrun, hv.1]
theorem MapV.update (h : MapV P k w b n z f) (K : Keyed P k) (hk : P.underlying k = some (.int .i64)) (ht : P.underlying t = some (.map k e)) (hn : n < maxLen) {x : Int} (hx : (Lit.int .i64 x).wf = true) (v : Value) :
    ∃ w', (Instr.mapUpdate t (.map (some b)) (.int .i64 x) v).run P w = .ok () w' ∧ MapV P k w' b (n + 1) z (upd f x v) ∧ w.grownBy w' (some b) := by
  obtain ⟨D, hd, hf⟩ := h
  obtain ⟨w', hrun, hd', hg⟩ := hd.update K ht hn (d := .held v) (ps := []) (keyOf_int_mk hk hx) rfl
  refine ⟨w', hrun, ⟨_, hd', fun i => ?_⟩, hg⟩
  by_cases e : i = x
  · subst e
    rw [atKey_put_same (k := .int .i64 i) hd.isMap trivial, upd_same]
  · rw [atKey_put_other (by intro h; cases h; exact e rfl), upd_other _ _ e]
    exact hf i
end

/-- each f x is nil or a slice of the numbers q x in a row of its own beyond block B, none of which is block c -/
structure Nbs (T : TypeId) (w : World) (B c : Nat) (f : Int → Value) (q : Int → List Int) : Prop where
  row : ∀ x, w.ownsRow (B + 1) T 1 (f x) (q x).length (ivs (q x))
  not : ∀ x, (f x).ownBlock ≠ some c
  inj : ∀ x y, (f x).ownBlock = (f y).ownBlock → (f x).ownBlock ≠ none → x = y
section
variable {T : TypeId} {w w' : World} {B c : Nat} {f : Int → Value} {q : Int → List Int}
theorem Nbs.start (T : TypeId) (w : World) (B c : Nat) : Nbs T w B c (fun _ => .slice none 0 0) (fun _ => []) :=
  ⟨fun _ => World.ownsRow_nil _ _ _ _, fun _ => by simp [Value.ownBlock], fun x y _ h => by simp [Value.ownBlock] at h⟩
theorem Nbs.kept {row : Option Nat} (h : Nbs T w B c f q) (hg : w.grownBy w' row) (hne : ∀ x, (f x).ownBlock = none ∨ (f x).ownBlock ≠ row) : Nbs T w' B c f q :=
  ⟨fun x => (h.row x).kept hg (hne x), h.not, h.inj⟩
theorem below_grown {b : Nat} (hb : Below b w w') (hs : w.heap.size ≤ b) : w.grownBy w' none := ⟨hb.os, hb.tape, hb.output, hb.size, fun k hk _ => hb.block k (by omega)⟩
theorem Nbs.below (h : Nbs T w B c f q) (hb : Below w.heap.size w w') : Nbs T w' B c f q := h.kept (below_grown hb (Nat.le_refl _)) (fun x => by cases hv : (f x).ownBlock <;> simp)
theorem Nbs.alloc (h : Nbs T w B c f q) (o : Obj) : Nbs T (w.alloc o) B c f q := h.below ((Below.refl _ _).alloc (Nat.le_refl _) _)
theorem Nbs.drew (h : Nbs T w B c f q) : Nbs T w.drew B c f q := h.below ⟨rfl, rfl, rfl, Nat.le_refl _, fun _ _ => rfl⟩
theorem Nbs.fresh (h : Nbs T w B c f q) {c' : Nat} (hc : w.heap.size ≤ c') : Nbs T w B c' f q :=
  ⟨h.row, fun x e => by have := ((h.row x).lt _ e).2; omega, h.inj⟩
theorem Nbs.atMap (h : Nbs T w B c f q) : Nbs T w B B f q :=
  ⟨h.row, fun x e => by have := ((h.row x).lt _ e).1; omega, h.inj⟩
/-- the map's own block turns -/
theorem Nbs.map (h : Nbs T w B c f q) (hg : w.grownBy w' (some B)) : Nbs T w' B c f q :=
  h.kept hg (fun x => by cases hv : (f x).ownBlock with
    | none => exact .inl rfl
    | some g => right; intro e; simp at e; have := ((h.row x).lt _ hv).1; omega)
theorem Nbs.ints (h : Nbs T w B c f q) (x : Int) : ∃ p cap, f x = .slice p (q x).length cap ∧ Ints w p (q x) := by
  have hr := h.row x
  rcases hr.2 with ⟨hv, h0⟩ | ⟨g, cap, cur, hv, hb, hg, h1, h2, h3, h4⟩
  · refine ⟨none, 0, by rw [hv]; simp [h0], .inl ?_⟩
    exact List.eq_nil_of_length_eq_zero h0
  · refine ⟨_, cap, hv, .inr ⟨g, 0, rfl, (Array.getElem?_eq_some_iff.1 hg).1, fun i z hi => ?_⟩⟩
    have := hr.cells (g := g) (by rw [hv]; rfl) i (.int .i64 z) (by simp [ivs, hi])
    rw [Go.WideShapes.add_plain] at this
    exact this
/-- one more number at x: the append, and what it leaves -/
theorem Nbs.append {P : Program} (h : Nbs T w B c f q) {t ty : TypeId} (ht : P.underlying t = some (.slice T)) (hinfo : (P.info? T).map (fun i => (i.zero, i.size, i.bytes)) = some (some (.int .i64 0), 1, 8)) (x y : Int) (hl : (q x).length ≤ 1000000)
    {b : Nat} (hb : w.cell? ⟨b, 0, none⟩ = some (.int .i64 y)) (hB : B < w.heap.size) (hc : c < w.heap.size) :
    ∃ v' w', (Builtin.append_ #[t, t] ty #[f x, .slice (some ⟨b, 0, none⟩) 1 1]).run P w = .ok v' w' ∧ Nbs T w' B c (upd f x v') (upd q x (q x ++ [y])) ∧ w.grownBy w' (f x).ownBlock := by
  obtain ⟨i, hi, hzz⟩ := Option.map_eq_some_iff.1 hinfo
  simp only [Prod.mk.injEq] at hzz
  obtain ⟨hz, hs', hb8⟩ := hzz
  obtain ⟨v', w', hr, hown, hg, hnil, hloc⟩ := run_append_own_at (P := P) w (B + 1) t ty T i _ 1 8 ht hi hz hs' hb8 rfl (by decide) (f x) _ _ (h.row x) ⟨b, 0, none⟩ 1 1 [.int .i64 y] rfl (by
    intro j u hu
    match j, hu with
    | 0, hu => simp at hu; subst hu; simpa [Addr.add] using hb) (by intro u hu; simp at hu; subst hu; rfl) (by unfold maxLen; omega) (by omega) (by omega)
  have hv' : ∀ z, z ≠ x → v'.ownBlock = (f z).ownBlock → v'.ownBlock ≠ none → False := fun z hzx e hn => by
    rcases hloc with hl | hl
    · exact hzx (h.inj z x (e.symm.trans hl) (by rw [← e]; exact hn))
    · have := ((h.row z).lt w.heap.size (by rw [← e]; exact hl)).2
      omega
  refine ⟨v', w', hr, ⟨fun z => ?_, fun z => ?_, fun z z' => ?_⟩, hg⟩
  · by_cases e : z = x
    · subst e
      rw [upd_same, upd_same]
      have : ivs (q z ++ [y]) = ivs (q z) ++ [.int .i64 y] := by simp [ivs]
      rw [this]
      simpa using hown
    · rw [upd_other _ _ e, upd_other _ _ e]
      refine (h.row z).kept hg ?_
      by_cases hn : (f z).ownBlock = none
      · exact .inl hn
      · exact .inr fun e' => e (h.inj z x e' hn)
  · by_cases e : z = x
    · subst e
      rw [upd_same]
      rcases hloc with hl | hl <;> rw [hl]
      · exact h.not z
      · simp; omega
    · rw [upd_other _ _ e]; exact h.not z
  · intro e hn
    by_cases e1 : z = x <;> by_cases e2 : z' = x
    · rw [e1, e2]
    · subst e1
      rw [upd_same, upd_other _ _ e2] at e
      rw [upd_same] at hn
      exact (hv' z' e2 e hn).elim
    · subst e2
      rw [upd_same, upd_other _ _ e1] at e
      rw [upd_other _ _ e1] at hn
      exact (hv' z e1 e.symm (by rw [← e]; exact hn)).elim
    · rw [upd_other _ _ e1, upd_other _ _ e2] at e
      rw [upd_other _ _ e1] at hn
      exact h.inj z z' e hn
end

/-- an append in a region that draws its order -/
theorem wpOp_append {P : Program} {ops : Array Oper} {Q : Exit → Act → World → Prop} {i : Nat} {o : Oper} {K : Act → World → Prop} {a : Act} {w w' : World} (ho : ops[i]? = some o) (hgd : o.guard = none) (s x : Operand) (t : TypeId)
    (hop : o.op = .call { callee := .builtin .append, args := #[s, x], argTypes := #[t, t] }) {v1 v2 v' : Value} (h1 : a.eval s = v1) (h2 : a.eval x = v2) (hr : (Builtin.append_ #[t, t] o.type #[v1, v2]).run P w = .ok v' w')
    (hK : K (a.put o.dst v') w') : wpOp P ops Q i K a w := by
  refine wpOp_step ho (fun K' hK' => ?_)
  rw [if_pos (by simp [Region.wanted, hgd])]
  unfold Oper.wp execOp
  simp only [hop, resolve, invoke, builtin, Sem.run_bind, Sem.run_pure, Result.andThen_ok, List.map_toArray, List.map_cons, List.map_nil, h1, h2, hr]
  exact hK' _ _ hK
/-- one block that is new may turn -/
theorem below_own {a w w' : World} {row : Option Nat} (h : Below a.heap.size a w) (hg : w.grownBy w' row) (hr : ∀ g, row = some g → a.heap.size ≤ g) : Below a.heap.size a w' :=
  ⟨hg.os.trans h.os, hg.tape.trans h.tape, hg.output.trans h.output, Nat.le_trans h.size hg.size, fun i hi =>
    (hg.block i (Nat.lt_of_lt_of_le hi h.size) (fun e => by have := hr i e.symm; omega)).trans (h.block i hi)⟩
/-- the nodes at the other ends of a node's runs -/
def nb : List Rn → Int → List Int
  | [], _ => []
  | r :: rs, x => (if x = r.f then [r.t] else []) ++ (if x = r.t then [r.f] else []) ++ nb rs x
theorem nb_append (rs rs' : List Rn) (x : Int) : nb (rs ++ rs') x = nb rs x ++ nb rs' x := by
  induction rs with
  | nil => rfl
  | cons r rs ih => simp [nb, ih]
theorem nb_take {rs : List Rn} {k : Nat} {r : Rn} (hr : rs[k]? = some r) (x : Int) : nb (rs.take (k + 1)) x = (nb (rs.take k) x ++ (if x = r.f then [r.t] else [])) ++ (if x = r.t then [r.f] else []) := by
  rw [List.take_add_one, hr, nb_append]
  simp [nb]
theorem nb_len (rs : List Rn) (x : Int) : (nb rs x).length ≤ 2 * rs.length := by
  induction rs with
  | nil => simp [nb]
  | cons r rs ih => simp only [nb, List.length_append, List.length_cons]; split <;> split <;> simp <;> omega
theorem nb_mem {rs : List Rn} {x y : Int} (h : y ∈ nb rs x) : ∃ r ∈ rs, (x = r.f ∧ y = r.t) ∨ (x = r.t ∧ y = r.f) := by
  induction rs with
  | nil => simp [nb] at h
  | cons r rs ih =>
    simp only [nb, List.mem_append] at h
    rcases h with (h | h) | h
    · split at h
      · rename_i e; simp at h; exact ⟨r, by simp, .inl ⟨e, h⟩⟩
      · simp at h
    · split at h
      · rename_i e; simp at h; exact ⟨r, by simp, .inr ⟨e, h⟩⟩
      · simp at h
    · obtain ⟨r', hr', h'⟩ := ih h
      exact ⟨r', by simp [hr'], h'⟩
theorem mem_nb {rs : List Rn} {r : Rn} (h : r ∈ rs) : r.t ∈ nb rs r.f ∧ r.f ∈ nb rs r.t := by
  induction rs with
  | nil => simp at h
  | cons a rs ih =>
    rcases List.mem_cons.1 h with rfl | h
    · simp [nb]
    · have := ih h; simp [nb, this.1, this.2]
end Go.Proofs.Ytjfbkafekkbcdaa
