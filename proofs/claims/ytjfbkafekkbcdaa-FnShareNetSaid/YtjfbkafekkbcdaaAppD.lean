/-
  Appending integers, or runs laid flat, in a region that draws its order: the law at a step. No function of the program is named.
-/
import Derived.Test.YtjfbkafekkbcdaaApp
import Derived.Deep.AppendLies
import Derived.Deep.RegionHeld3
namespace Go.Proofs.Ytjfbkafekkbcdaa
set_option linter.unusedVariables false
open Go.RowKit

/-- at a step of a region that draws its order -/
theorem step_app {P : Program} (w : World) {ops : Array Oper} {o : Oper} {a : Act} {K : Act → World → Prop} {Q : Exit → Act → World → Prop} {E : Prop} (hgd : o.guard = none) (s x : Operand) (t : TypeId)
    (ho : o.op = .call { callee := .builtin .append, args := #[s, x], argTypes := #[t, t] })
    (e : TypeId) (z : Value) (sz bytes : Nat) (ht : P.underlying t = some (.slice e)) (hinfo : (P.info? e).map (fun i => (i.zero, i.size, i.bytes)) = some (some z, sz, bytes)) (hzs : z.cells.size = sz) (hsz : 0 < sz) (hby : bytes ≤ 32)
    (g n cap : Nat) (xs : List Int) (hs : a.eval s = .slice (some ⟨g, 0, none⟩) n cap) (hown : Own w g e sz n cap xs)
    (ad : Addr) (m c : Nat) (news : List Int) (hx : a.eval x = .slice (some ad) m c) (hl : news.length = m * sz) (hnews : ∀ (j : Nat) (z : Int), news[j]? = some z → w.cell? (ad.add j) = some (.int .i64 z)) (hm : 0 < m) (h63 : n + m ≤ 4194304)
    (h : ∀ g' cap' w', Own w' g' e sz (n + m) cap' (xs ++ news) → w.grownBy w' (some g) → (g' = g ∨ g' = w.heap.size) → g' < w'.heap.size → K (a.put o.dst (.slice (some ⟨g', 0, none⟩) (n + m) cap')) w') :
    if Region.wanted o (yielded ops a.tmps) = true then Oper.wp P o a w K Q else E := by
  obtain ⟨i, hi, hzz⟩ := Option.map_eq_some_iff.1 hinfo
  simp only [Prod.mk.injEq] at hzz
  obtain ⟨hz, hs', hb⟩ := hzz
  have h32 : (n + m) * bytes ≤ 4194304 * 32 := Nat.mul_le_mul h63 hby
  refine step_append_lies w hgd s x t ho 0 e i z sz bytes ht hi hz hs' hb hzs hsz _ n (ivs xs) hs (hown.row (Nat.zero_le _)) ad m c (ivs news) hx (by simpa [ivs] using hl) (fun j u hu => ?_) (fun u hu => ?_) hm (by unfold maxLen; omega) (by omega) (Nat.zero_le _) w.heap.size rfl (fun g' cap' w' hrow hg hat hlt => ?_)
  · rw [ivs, List.getElem?_map] at hu
    obtain ⟨z', hz', rfl⟩ := Option.map_eq_some_iff.1 hu
    exact hnews j z' hz'
  · rw [ivs, List.mem_map] at hu
    obtain ⟨z', _, rfl⟩ := hu
    rfl
  · obtain ⟨hl', ⟨hc, _⟩ | ⟨g2, cap2, cur, e2, hb', hgg, h1, h2, h3, h4⟩⟩ := hrow
    · simp at hc
    · simp at e2
      obtain ⟨rfl, rfl⟩ := e2
      refine h _ _ w' ⟨by simpa [ivs] using hl', .inr ⟨_, _, cur, rfl, Nat.le_refl _, hgg, h1, h2, h3, by rw [h4]; simp [ivs]⟩⟩ hg ?_ hlt
      rcases hat with e | e
      · left; simpa [Value.ownBlock, eq_comm] using e
      · exact .inr e
end Go.Proofs.Ytjfbkafekkbcdaa
