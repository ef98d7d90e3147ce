/-
  What the draw of the law on places gives.
-/
import Derived.Test.YthecapioagogbaaYdf
namespace Go.Proofs.Ythecapioagogbaa
open Go.RowKit Poly
set_option linter.unusedVariables false

theorem code_below2 {w w' : World} {v : Value} (h : Code' w v) (hb : Below w.heap.size w w') : Code' w' v := by
  rcases h with ⟨a, c, rfl⟩ | ⟨D, off, len, cap, f, rfl, h1, h2, h3, h4, h5⟩
  · exact .inl ⟨a, c, rfl⟩
  · refine .inr ⟨D, off, len, cap, f, rfl, h1, h2, h3, Nat.lt_of_lt_of_le h4 hb.size, fun j hj => ?_⟩
    rw [hb.cell (p := ⟨D, off + j, none⟩) h4]
    exact h5 j hj
/-- a drawn list of points and a point, by new memory alone -/
def DPp (w : World) (e : Ending) (w' : World) : Prop :=
  ∃ (L : List P2) (p : Option Addr) (c : Nat) (q : P2), e = .returned (.tuple #[.slice p L.length c, .agg #[.int .i64 q.1, .int .i64 q.2]]) ∧ L.length ≤ c ∧ L.length ≤ 12 ∧ Ints w' p (fl L) ∧ Below w.heap.size w w'

set_option maxHeartbeats 4000000 in
theorem drawPolyPlace_is (v : Value) (w : World) (h : Hid (Code' w v)) :
    Calls Try.prog 29 #[v] w (DPp w) := by
  go_enter Try.func29, Try.ntmps29
  have hv0 : Hid (Code' (w.alloc (.cells #[.int .i64 0, .int .i64 0] 31)) v) := Lib.hid (code_below2 h.out ((Below.refl _ _).alloc (Nat.le_refl _) _))
  go_wp2_with (first | (go_at_call 42; (with_reducible refine (open_any _ _ hv0).mono ?_); rintro e wo ⟨rfl, hR_wo, hb_wo, hz_wo⟩; have hs_wo := hb_wo.size; simp only [World.size_alloc] at hs_wo hb_wo hR_wo; have k0 : wo.cell? ⟨w.heap.size, 0, none⟩ = some (.int .i64 0) := (hb_wo.cell (p := ⟨w.heap.size, 0, none⟩) (Nat.lt_succ_self _)).trans (World.cell?_alloc_new w _ _ 0); have k1 : wo.cell? ⟨w.heap.size, 1, none⟩ = some (.int .i64 0) := (hb_wo.cell (p := ⟨w.heap.size, 1, none⟩) (Nat.lt_succ_self _)).trans (World.cell?_alloc_new w _ _ 1); have f0 : wo.frozen? ⟨w.heap.size, 0, none⟩ = false := (World.frozen?_of_block (a := ⟨w.heap.size, 0, none⟩) (hb_wo.block _ (Nat.lt_succ_self _))).trans (World.frozen?_alloc_new w _ _ 0); have f1 : wo.frozen? ⟨w.heap.size, 1, none⟩ = false := (World.frozen?_of_block (a := ⟨w.heap.size, 1, none⟩) (hb_wo.block _ (Nat.lt_succ_self _))).trans (World.frozen?_alloc_new w _ _ 1)) | (go_at_call 43; (with_reducible refine (poly_any 0 _ _ hR_wo (by omega)).mono ?_); rintro e wb ⟨L, p, c, rfl, hc, hl, hi, hne, hrd, hgb⟩; have hsb := hgb.size; obtain ⟨hcn, hfn⟩ := gcell hgb; have k0 := (hcn w.heap.size 0 (by omega) (by omega)).trans k0; have k1 := (hcn w.heap.size 1 (by omega) (by omega)).trans k1; have f0 := (hfn w.heap.size 0 (by omega) (by omega)).trans f0; have f1 := (hfn w.heap.size 1 (by omega) (by omega)).trans f1) | (go_at_call 59; (with_reducible refine (dpt_any (0 + 32) _ _ hrd (by omega)).mono ?_); rintro e wc ⟨a, b, a0, a1, b0, b1, rfl, hrc, hgc⟩; have hsc := hgc.size; obtain ⟨hcn', hfn'⟩ := gcell hgc; have k0 := (hcn' w.heap.size 0 (by omega) (by omega)).trans k0; have k1 := (hcn' w.heap.size 1 (by omega) (by omega)).trans k1; have f0 := (hfn' w.heap.size 0 (by omega) (by omega)).trans f0; have f1 := (hfn' w.heap.size 1 (by omega) (by omega)).trans f1))
  have hRo : w.heap.size + 1 < wo.heap.size := rdr_lt hR_wo
  have hRo' : w.heap.size < wo.heap.size := by omega
  obtain ⟨d0, d1⟩ := two_set (x := .int .i64 a) (y := .int .i64 b) k0 k1
  have hg2 : wc.grownBy ((wc.setCell ⟨w.heap.size, 0, none⟩ (.int .i64 a)).setCell ⟨w.heap.size, 1, none⟩ (.int .i64 b)) (some w.heap.size) := gb_setCell (p := ⟨w.heap.size, 1, none⟩) (gb_setCell (p := ⟨w.heap.size, 0, none⟩) (gb_refl _ _) (.inl rfl) _) (.inl rfl) _
  have hw0 : Below w.heap.size w wo := Below.trans ((Below.refl _ _).alloc (Nat.le_refl _) _) (hb_wo.mono (by omega))
  have hw1 : Below w.heap.size w wb := below_gb hw0 hgb (by omega) (by omega)
  have hw2 : Below w.heap.size w wc := below_gb hw1 hgc (by omega) (by omega)
  exact bodyPost_ret (v := .tuple #[.slice p L.length c, .agg #[.int .i64 a, .int .i64 b]]) (by simp [results, Try.results29, go_sem, d0, d1]) rfl ⟨L, p, c, (a, b), rfl, hc, hl, dps_keep hne hRo' (dps_keep hne hRo hi hgc) hg2, below_gb hw2 hg2 (Nat.le_refl _) (by omega)⟩
end Go.Proofs.Ythecapioagogbaa
