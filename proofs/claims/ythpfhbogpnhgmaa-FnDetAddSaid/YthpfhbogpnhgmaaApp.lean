/-
  Appending integers, or runs laid flat, to a block that the call has made, or to nil: the law at the operation. No function of the program is named.
-/
import Derived.Test.YthpfhbogpnhgmaaOwn
import Derived.Maps.AppendAt
namespace Go.Proofs.Ythpfhbogpnhgmaa
set_option linter.unusedVariables false
open Go.RowKit

/-- where an append may have left the elements: in the same block or in one that is new -/
theorem wp_append {P : Program} (w : World) {ops : Array Oper} {rest : List Oper} {o : Oper} {a : Act} {Q : Exit → Act → World → Prop} (hgd : o.guard = none) (s x : Operand) (t : TypeId)
    (ho : o.op = .call { callee := .builtin .append, args := #[s, x], argTypes := #[t, t] })
    (e : TypeId) (z : Value) (sz bytes : Nat) (ht : P.underlying t = some (.slice e)) (hinfo : (P.info? e).map (fun i => (i.zero, i.size, i.bytes)) = some (some z, sz, bytes)) (hzs : z.cells.size = sz) (hsz : 0 < sz) (hby : bytes ≤ 32)
    (g n cap : Nat) (xs : List Int) (hs : a.eval s = .slice (some ⟨g, 0, none⟩) n cap) (hown : Own w g e sz n cap xs)
    (ad : Addr) (m c : Nat) (news : List Int) (hx : a.eval x = .slice (some ad) m c) (hl : news.length = m * sz) (hnews : ∀ (j : Nat) (z : Int), news[j]? = some z → w.cell? (ad.add j) = some (.int .i64 z)) (h63 : n + m ≤ 4194304)
    (h : ∀ g' cap' w', Own w' g' e sz (n + m) cap' (xs ++ news) → w.grownBy w' (some g) → (g' = g ∨ g' = w.heap.size) → w.heap.size ≤ w'.heap.size → wpList P ops Q rest (a.put o.dst (.slice (some ⟨g', 0, none⟩) (n + m) cap')) w') :
    wpList P ops Q (o :: rest) a w := by
  obtain ⟨i, hi, hzz⟩ := Option.map_eq_some_iff.1 hinfo
  simp only [Prod.mk.injEq] at hzz
  obtain ⟨hz, hs', hb⟩ := hzz
  have h32 : (n + m) * bytes ≤ 4194304 * 32 := Nat.mul_le_mul h63 hby
  refine wpList_append_own_at w hgd s x t ho 0 e i z sz bytes ht hi hz hs' hb hzs hsz _ n (ivs xs) hs (hown.row (Nat.zero_le _)) ad m c (ivs news) hx (by simpa [ivs] using hl) ?_ ?_ (by unfold maxLen; omega) (by omega) (Nat.zero_le _) ?_
  · intro j u hu
    rw [ivs, List.getElem?_map] at hu
    obtain ⟨z', hz', rfl⟩ := Option.map_eq_some_iff.1 hu
    exact hnews j z' hz'
  · intro u hu
    rw [ivs, List.mem_map] at hu
    obtain ⟨z', _, rfl⟩ := hu
    rfl
  · intro v' w' hown' hg hnil hloc
    have hgw : w.grownBy w' (some g) := hg
    obtain ⟨hl', ⟨rfl, h0⟩ | ⟨g', cap', cur, rfl, hb', hgg, h1, h2, h3, h4⟩⟩ := hown'
    · have := hnil.1 rfl
      simp at this
    · refine h g' cap' w' ⟨by simpa [ivs] using hl', .inr ⟨g', cap', cur, rfl, Nat.le_refl _, hgg, h1, h2, h3, by rw [h4]; simp [ivs]⟩⟩ hgw ?_ hgw.size
      simpa [Value.ownBlock] using hloc
/-- .. where nothing was there before -/
theorem wp_append_nil {P : Program} (w : World) {ops : Array Oper} {rest : List Oper} {o : Oper} {a : Act} {Q : Exit → Act → World → Prop} (hgd : o.guard = none) (s x : Operand) (t : TypeId)
    (ho : o.op = .call { callee := .builtin .append, args := #[s, x], argTypes := #[t, t] })
    (e : TypeId) (z : Value) (sz bytes : Nat) (ht : P.underlying t = some (.slice e)) (hinfo : (P.info? e).map (fun i => (i.zero, i.size, i.bytes)) = some (some z, sz, bytes)) (hzs : z.cells.size = sz) (hsz : 0 < sz) (hby : bytes ≤ 32)
    (hs : a.eval s = .slice none 0 0)
    (ad : Addr) (m c : Nat) (news : List Int) (hx : a.eval x = .slice (some ad) m c) (hm : 0 < m) (hl : news.length = m * sz) (hnews : ∀ (j : Nat) (z : Int), news[j]? = some z → w.cell? (ad.add j) = some (.int .i64 z)) (h63 : m ≤ 4194304)
    (h : ∀ cap' w', Own w' w.heap.size e sz m cap' news → Below w.heap.size w w' → w.heap.size < w'.heap.size → wpList P ops Q rest (a.put o.dst (.slice (some ⟨w.heap.size, 0, none⟩) m cap')) w') :
    wpList P ops Q (o :: rest) a w := by
  obtain ⟨i, hi, hzz⟩ := Option.map_eq_some_iff.1 hinfo
  simp only [Prod.mk.injEq] at hzz
  obtain ⟨hz, hs', hb⟩ := hzz
  have h32 : m * bytes ≤ 4194304 * 32 := Nat.mul_le_mul h63 hby
  refine wpList_append_own_at w hgd s x t ho 0 e i z sz bytes ht hi hz hs' hb hzs hsz _ 0 [] hs (World.ownsRow_nil _ _ _ _) ad m c (ivs news) hx (by simpa [ivs] using hl) ?_ ?_ (by unfold maxLen; omega) (by rw [Nat.zero_add]; omega) (Nat.zero_le _) ?_
  · intro j u hu
    rw [ivs, List.getElem?_map] at hu
    obtain ⟨z', hz', rfl⟩ := Option.map_eq_some_iff.1 hu
    exact hnews j z' hz'
  · intro u hu
    rw [ivs, List.mem_map] at hu
    obtain ⟨z', _, rfl⟩ := hu
    rfl
  · intro v' w' hown' hg hnil hloc
    rw [Nat.zero_add] at hown'
    obtain ⟨hl', ⟨rfl, h0⟩ | ⟨g', cap', cur, rfl, hb', hgg, h1, h2, h3, h4⟩⟩ := hown'
    · omega
    · have e1 : g' = w.heap.size := by simpa [Value.ownBlock] using hloc
      subst e1
      exact h cap' w' ⟨by simpa [ivs] using hl', .inr ⟨_, cap', cur, rfl, Nat.le_refl _, hgg, h1, h2, h3, by rw [h4]; simp [ivs]⟩⟩ ⟨hg.os, hg.tape, hg.output, hg.size, fun k hk => hg.block k hk (by simp [Value.ownBlock])⟩ (Array.getElem?_eq_some_iff.1 hgg).1
/-- a change on a new block alone is none below -/
theorem below_gr {B g : Nat} {a w w' : World} (h : Below B a w) (hg : w.grownBy w' (some g)) (hB : B ≤ g) (hs : B ≤ w.heap.size) : Below B a w' :=
  ⟨hg.os.trans h.os, hg.tape.trans h.tape, hg.output.trans h.output, Nat.le_trans h.size hg.size, fun i hi => (hg.block i (Nat.lt_of_lt_of_le hi hs) (by simp; omega)).trans (h.block i hi)⟩
/-- an empty literal slice -/
theorem Own.empty (w : World) (T : TypeId) (sz : Nat) : Own (w.alloc (.cells #[] T)) w.heap.size T sz 0 0 [] :=
  .of (Deep.blk_alloc_new _ _) (Nat.le_refl _) (Nat.zero_le _) (by simp) (by simp [ivs]) (by simp)
end Go.Proofs.Ythpfhbogpnhgmaa
