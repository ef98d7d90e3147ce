/-
  The program's NetSource.
  The program's lists of runs laid one behind the other (slices.Grow, slices.Concat), and NetWithout.
  The program's NetWithout.
-/
import Derived.Test.YtenllemaccacgabZl
import Derived.Test.YtenllemaccacgabZk
import Derived.Lib.AppendZeros
namespace Go.Proofs.Ytenllemaccacgab
open Go.RowKit
set_option linter.unusedVariables false

/-- a block of numbers of which the first one is not in the answer -/
def OwnT (w : World) (g : Nat) (zs : List Int) : Prop := ∃ N z0, Own w g 3 1 N N (z0 :: zs)
theorem OwnT.below {w w' : World} {g : Nat} {zs : List Int} (h : OwnT w g zs) (hb : Below w.heap.size w w') : OwnT w' g zs := by
  obtain ⟨N, z0, h⟩ := h; exact ⟨N, z0, h.below hb⟩
theorem OwnT.lt {w : World} {g : Nat} {zs : List Int} (h : OwnT w g zs) : g < w.heap.size := by
  obtain ⟨N, z0, h⟩ := h; exact h.lt
theorem OwnT.cells {w : World} {g : Nat} {zs : List Int} (h : OwnT w g zs) {i : Nat} {z : Int} (hi : zs[i]? = some z) : w.cell? ⟨g, 1 + i, none⟩ = some (.int .i64 z) := by
  obtain ⟨N, z0, h⟩ := h
  rw [Nat.add_comm 1 i]
  exact h.cells (i := i + 1) (by simpa using hi)
theorem OwnT.ints {w : World} {g : Nat} {zs : List Int} (h : OwnT w g zs) : Ints w (some ⟨g, 1, none⟩) zs :=
  .inr ⟨g, 1, rfl, h.lt, fun i z hi => h.cells hi⟩
theorem rgL_cons (n : Nat) (f : Nat → Int) : rgL (n + 1) f = f 0 :: rgL n (fun i => f (i + 1)) := by
  unfold rgL; rw [List.range_succ_eq_map, List.map_cons, List.map_map]; rfl
end Go.Proofs.Ytenllemaccacgab
namespace Go.Proofs.Ytenllemaccacgab
open Go.RowKit
set_option linter.unusedVariables false

/-- nothing appended to nil -/
theorem wp_append_nil0 {P : Program} (w : World) {ops : Array Oper} {rest : List Oper} {o : Oper} {a : Act} {Q : Exit → Act → World → Prop} (hgd : o.guard = none) (s x : Operand) (t : TypeId)
    (ho : o.op = .call { callee := .builtin .append, args := #[s, x], argTypes := #[t, t] })
    (e : TypeId) (z : Value) (sz bytes : Nat) (ht : P.underlying t = some (.slice e)) (hinfo : (P.info? e).map (fun i => (i.zero, i.size, i.bytes)) = some (some z, sz, bytes)) (hzs : z.cells.size = sz) (hsz : 0 < sz)
    (hs : a.eval s = .slice none 0 0) (ad : Addr) (c : Nat) (hx : a.eval x = .slice (some ad) 0 c)
    (h : ∀ w', Below w.heap.size w w' → wpList P ops Q rest (a.put o.dst (.slice none 0 0)) w') :
    wpList P ops Q (o :: rest) a w := by
  obtain ⟨i, hi, hzz⟩ := Option.map_eq_some_iff.1 hinfo
  simp only [Prod.mk.injEq] at hzz
  obtain ⟨hz, hs', hb⟩ := hzz
  refine wpList_append_own_at w hgd s x t ho 0 e i z sz bytes ht hi hz hs' hb hzs hsz _ 0 [] hs (World.ownsRow_nil _ _ _ _) ad 0 c [] hx (by simp) (fun j u hu => by simp at hu) (fun u hu => by simp at hu) (by unfold maxLen; omega) (by omega) (Nat.zero_le _) ?_
  intro v' w' hown' hg hnil hloc
  obtain rfl := hnil.2 ⟨rfl, rfl⟩
  exact h w' ⟨hg.os, hg.tape, hg.output, hg.size, fun k hk => hg.block k hk (by simp [Value.ownBlock])⟩
/-- numbers of zeros appended to nil -/
theorem wp_append_zeros {P : Program} (w : World) {ops : Array Oper} {rest : List Oper} {o : Oper} {a : Act} {Q : Exit → Act → World → Prop} (hgd : o.guard = none) (s x : Operand) (t tn : TypeId)
    (ho : o.op = .call { callee := .builtin .append, args := #[s, x], argTypes := #[t, tn] })
    (e : TypeId) (z : Value) (sz bytes : Nat) (ht : P.underlying t = some (.slice e)) (htn : P.underlying tn = some (.int .i64)) (hinfo : (P.info? e).map (fun i => (i.zero, i.size, i.bytes)) = some (some z, sz, bytes)) (hzs : z.cells.size = sz) (hsz : 0 < sz) (hby : bytes ≤ 32)
    (hs : a.eval s = .slice none 0 0) (n : Nat) (hn : 0 < n) (hn4 : n ≤ 4194304) (hx : a.eval x = .int .i64 n)
    (h : ∀ cap' w', n ≤ cap' → Own w' w.heap.size e sz 0 cap' [] → Below w.heap.size w w' → wpList P ops Q rest (a.put o.dst (.slice (some ⟨w.heap.size, 0, none⟩) n cap')) w') :
    wpList P ops Q (o :: rest) a w := by
  obtain ⟨i, hi, hzz⟩ := Option.map_eq_some_iff.1 hinfo
  simp only [Prod.mk.injEq] at hzz
  obtain ⟨hz, hs', hb⟩ := hzz
  have hbn : n * bytes ≤ 4194304 * 32 := Nat.mul_le_mul hn4 hby
  refine Lib.wpList_append_run w hgd s x t tn ho _ _ hs hx _ _ (Lib.run_append_nil_zeros (P := P) w t tn o.type e i z .i64 .i64 ht htn hi hz n hn (by omega) (by omega) (by rw [hb]; omega)) ?_
  have hcap := grownCap_ge w n 0 e
  refine h _ _ hcap ?_ ((below_drew (Below.refl _ _)).alloc (Nat.le_refl _) _)
  refine .of (cur := Builtin.zeroCells z.cells n ++ Builtin.zeroCells z.cells (grownCap w n 0 e - n)) ?_ (Nat.zero_le _) (grownCap_le_maxLen w n 0 e (by unfold maxLen; omega)) ?_ (by simp [ivs]) (by simp)
  · have := Deep.blk_alloc_new w.drew (.cells (Builtin.zeroCells z.cells n ++ Builtin.zeroCells z.cells (grownCap w n 0 e - n)) e)
    exact this
  · rw [Array.size_append, size_zeroCells, size_zeroCells, hzs, ← Nat.add_mul]
    congr 1; omega

theorem cell_below_any {w w' : World} {a : Addr} {v : Value} (h : Below w.heap.size w w') (hc : w.cell? a = some v) : w'.cell? a = some v := (World.cell?_of_block (h.block _ (World.block_lt_of_cell? w a hc))).trans hc
/-- what is laid out after each of two lists -/
def prt (xs ys : List Rn) (j : Nat) : List Rn := if j = 0 then [] else if j = 1 then xs else xs ++ ys
end Go.Proofs.Ytenllemaccacgab
namespace Go.Proofs.Ytenllemaccacgab
open Go.RowKit
set_option linter.unusedVariables false

/-- a new list of runs, or none at all where it is empty -/
def NewV (w : World) (rs : List Rn) (v : Value) (w' : World) : Prop := (rs = [] ∧ v = .slice none 0 0 ∧ Below w.heap.size w w') ∨ (rs ≠ [] ∧ NewRuns w rs v w')
/-- .. as a list to be read -/
def NewP (w : World) (q : Nat) (rs : List Rn) (v : Value) (w' : World) : Prop := ∃ p cap, v = .slice p q cap ∧ Runs w' p rs ∧ Below w.heap.size w w'
theorem NewV.p {w w' : World} {rs : List Rn} {v : Value} {q : Nat} (h : NewV w rs v w') (hq : rs.length = q) : NewP w q rs v w' := by
  rcases h with ⟨rfl, rfl, hb⟩ | ⟨_, g, cap, rfl, hg, ho, hb⟩
  · exact ⟨none, 0, by rw [← hq]; rfl, .inl rfl, hb⟩
  · exact ⟨some ⟨g, 0, none⟩, cap, by rw [hq], ho.runs, hb⟩
theorem NewV.from {w W w' : World} {rs : List Rn} {v : Value} (h : NewV W rs v w') (hb : Below w.heap.size w W) : NewV w rs v w' := by
  have hs := hb.size
  rcases h with ⟨h1, h2, h3⟩ | ⟨h1, g, cap, h2, hg, ho, h3⟩
  · exact .inl ⟨h1, h2, hb.trans (h3.mono hs)⟩
  · exact .inr ⟨h1, g, cap, h2, Nat.le_trans hs hg, ho, hb.trans (h3.mono hs)⟩
theorem NewV.ne {w w' : World} {rs : List Rn} {v : Value} (h : NewV w rs v w') (hne : rs ≠ []) : NewRuns w rs v w' := by
  rcases h with ⟨h, _⟩ | ⟨_, h⟩
  · exact absurd h hne
  · exact h
theorem NewV.nil {w w' : World} {rs : List Rn} {v : Value} (h : NewV w rs v w') (he : rs = []) : v = .slice none 0 0 ∧ Below w.heap.size w w' := by
  rcases h with ⟨_, h⟩ | ⟨h, _⟩
  · exact h
  · exact absurd he h
/-- new runs, their number apart -/
def NewQ (w : World) (q : Nat) (rs : List Rn) (v : Value) (w' : World) : Prop :=
  ∃ g cap, v = .slice (some ⟨g, 0, none⟩) q cap ∧ w.heap.size ≤ g ∧ Own w' g 42 4 q cap (flat rs) ∧ Below w.heap.size w w'
theorem NewRuns.q {w w' : World} {rs : List Rn} {v : Value} {q : Nat} (h : NewRuns w rs v w') (hq : rs.length = q) : NewQ w q rs v w' := by subst hq; exact h
end Go.Proofs.Ytenllemaccacgab
