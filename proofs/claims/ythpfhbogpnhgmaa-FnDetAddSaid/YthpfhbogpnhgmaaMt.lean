/-
  The reference model's matrix without its first row and a column.
-/
import Derived.Test.YthpfhbogpnhgmaaMs
import Derived.Test.YthpfhbogpnhgmaaNi
import Derived.Test.YthpfhbogpnhgmaaGs
import Derived.Deep.Cut
namespace Go.Proofs.Ythpfhbogpnhgmaa
open Go.RowKit
set_option linter.unusedVariables false

theorem info_ints : (Try.prog.info? 29).map (fun i => (i.zero, i.size, i.bytes)) = some (some (.slice none 0 0), 1, 24) := by kernel_rfl
theorem GridO.z {w : World} {TI TR : TypeId} {lo g cap : Nat} {bs : List (Nat × Nat)} {L : List (List Int)} (h : GridO w TI TR lo g cap bs L) : ∀ (i b c : Nat), bs[i]? = some (b, c) → b < w.heap.size := fun i b c hb => by
  have hl : i < L.length := by rw [← h.len]; exact (List.getElem?_eq_some_iff.1 hb).1
  exact (h.row i b c _ hb (List.getElem?_eq_getElem hl)).lt
theorem GridO.push {w w' : World} {TI TR : TypeId} {lo g cap : Nat} {bs : List (Nat × Nat)} {L : List (List Int)} {j x g' cap' b c : Nat} {row : List Int} (h : GridO w TI TR lo g cap bs L) (hj : L.length = j) (hx : row.length = x) (hg : w.grownBy w' (some g)) (hg' : g' = g ∨ g' = w.heap.size) (ht : OwnV w' g' TR (j + 1) cap' (rowVs bs L ++ [.slice (some ⟨b, 0, none⟩) x c])) (ho : Own w b TI 1 x c row) (hb : lo ≤ b ∧ b ≠ g) (hd : ∀ (i b' c' : Nat), bs[i]? = some (b', c') → b' ≠ b) : GridO w' TI TR lo g' cap' (bs ++ [(b, c)]) (L ++ [row]) := by
  subst hj hx
  exact h.snoc hg hg' ht ho hb hd
theorem add_flat (B o j : Nat) : (⟨B, o, none⟩ : Addr).add j = ⟨B, o + j, none⟩ := by
  unfold Addr.add
  split
  · next h => simp_all
  · rfl
theorem ints_cellsA {w : World} {ad : Addr} {r : List Int} (h : Ints w (some ad) r) : ∀ (j : Nat) (z : Int), r[j]? = some z → w.cell? (ad.add j) = some (.int .i64 z) := by
  intro j z hz
  obtain ⟨B', o', z', e1, e2, _, e3⟩ := h.at (i := j) (List.getElem?_eq_some_iff.1 hz).1
  cases e1
  rw [hz] at e2; cases e2
  rw [add_flat]; exact e3
theorem ints_cellsT {w : World} {B o : Nat} {r : List Int} (n : Nat) (h : Ints w (some ⟨B, o, none⟩) r) : ∀ (j : Nat) (z : Int), (r.take n)[j]? = some z → w.cell? ((⟨B, o, none⟩ : Addr).add j) = some (.int .i64 z) := by
  intro j z hz
  rw [List.getElem?_take] at hz
  split at hz
  · exact ints_cellsA h j z hz
  · cases hz
theorem ints_cellsD {w : World} {B o : Nat} {r : List Int} (n : Nat) (h : Ints w (some ⟨B, o, none⟩) r) : ∀ (j : Nat) (z : Int), (r.drop n)[j]? = some z → w.cell? ((⟨B, o + n, none⟩ : Addr).add j) = some (.int .i64 z) := by
  intro j z hz
  rw [List.getElem?_drop] at hz
  have := ints_cellsA h (n + j) z hz
  have e : (⟨B, o + n, none⟩ : Addr).add j = (⟨B, o, none⟩ : Addr).add (n + j) := by rw [add_flat, add_flat, Nat.add_assoc]
  rw [e]; exact this
theorem cutL_row {j x : Nat} {L : List (List Int)} {r : List Int} (h : L[x + 1]? = some r) : (cutL L j)[x]? = some (r.take j ++ r.drop (j + 1)) := by
  unfold cutL
  rw [List.getElem?_map, List.getElem?_drop, Nat.add_comm 1 x, h]; rfl
set_option maxHeartbeats 4000000 in
set_option maxRecDepth 100000 in
theorem sWithout (n c j : Nat) (p : Option Addr) (L : List (List Int)) (w : World) (h : GRead w p L) (hs : Sq (n + 1) L) (h5 : n + 1 ≤ 5) (hj : j < n + 1) :
    Calls Try.prog 57 #[.slice p (n + 1) c, .int .i64 j] w fun e w' => ∃ g d, e = .returned (.slice (some ⟨g, 0, none⟩) n d) ∧ GRead w' (some ⟨g, 0, none⟩) (cutL L j) ∧ Below w.heap.size w w' := by
  have H := Lib.hid (And.intro h hs)
  have hcl : (cutL L j).length = n := (cut_sq hs hj).1
  have HE := Lib.hid (GridO.empty w 3 29 w.heap.size (Nat.le_refl _))
  clear h hs
  go_enter Try.func57, Try.ntmps57
  go_wp2_with fail
  go_loopw [5, 6] (fun v i wr => ∃ (x g cap : Nat) (bs : List (Nat × Nat)), x ≤ n ∧ i = .int .i64 (x + 1) ∧ v = .slice (some ⟨g, 0, none⟩) x cap ∧ GridO wr 3 29 w.heap.size g cap bs ((cutL L j).take x) ∧ Below w.heap.size w wr) (fun _ i _ => n + 1 - (intOf i).toNat)
  case atStart => exact ⟨0, _, _, _, Nat.zero_le _, rfl, rfl, HE.out, (by repeat (first | assumption | exact Below.refl _ _ | (refine below_chain ?_ (by assumption) (by first | omega | (simp <;> omega) | simp)) | (refine Below.alloc ?_ (by first | omega | (simp <;> omega) | simp) _) | (apply below_drewN) | (apply below_drew) | (refine Below.setCell ?_ (by first | omega | (simp <;> omega) | simp) _)))⟩
  case round =>
    clear HE
    rename World => wr
    obtain ⟨x, g, cap, bs, hx, rfl, rfl, hg, hbr⟩ := hrel
    have hbs := hbr.size
    have hlg := hg.lt
    by_cases hlt : x < n
    · have hlt' : (x : Int) + 1 < (n : Int) + 1 := by omega
      obtain ⟨B, o, r, q1, cq, rfl, hr, hB, e0, hcq, hi⟩ := (H.out.1.below hbr).at (i := x + 1) (by rw [H.out.2.1]; omega)
      have hrl : r.length = n + 1 := H.out.2.2 r (List.mem_of_getElem? hr)
      rw [hrl] at e0 hcq
      obtain ⟨A, oA, rfl, hA, hcell⟩ : ∃ A oA, q1 = some ⟨A, oA, none⟩ ∧ A < wr.heap.size ∧ Ints wr (some ⟨A, oA, none⟩) r := by
        rcases hi with h | ⟨A, oA, rfl, hA, hh⟩
        · rw [h] at hrl; simp at hrl
        · exact ⟨A, oA, rfl, hA, .inr ⟨A, oA, rfl, hA, hh⟩⟩
      have HR := Lib.hid (And.intro hcell (And.intro hr hrl))
      have HG := Lib.hid (And.intro hg hbr)
      have hzb := hg.z
      have HZ := Lib.hid hzb
      have e0' : wr.cell? ⟨B, o + 1 + x, none⟩ = some (.slice (some ⟨A, oA, none⟩) (n + 1) cq) := by rw [Nat.add_assoc, Nat.add_comm 1 x]; exact e0
      clear hi hcell hr hrl hg hbr hzb
      go_upto_region 6 with (at_builtin; refine wp_append _ rfl _ _ 29 rfl 3 _ 1 8 Try.underlying29 info_int rfl (by decide) (by decide) _ 0 0 [] rfl (Own.empty _ _ _) _ _ _ (r.take j) rfl (by rw [List.length_take, HR.out.2.2, Nat.mul_one]; omega) (ints_cellsT j (HR.out.1.alloc _)) (by omega) ?_; intro g1 d1 w1 hown hg1 hloc hsz1; have HN := Lib.hid (And.intro hown (And.intro hg1 hloc)); clear hown hg1 hloc; simp only [Nat.zero_add])
      obtain ⟨hown, hg1, hloc⟩ := HN.out
      rw [Nat.zero_add, List.nil_append] at hown
      have hb1 : Below wr.heap.size wr w1 := below_gr ((Below.refl wr.heap.size wr).alloc (Nat.le_refl _) _) hg1 (Nat.le_refl _) (by simp)
      have hg1l : wr.heap.size ≤ g1 := by
        rcases hloc with e | e
        · omega
        · simp at e; omega
      have hz1 := hb1.size
      have hl1 := hown.lt
      have e5 := (hb1.cell (p := ⟨B, o + (x + 1), none⟩) hB).trans e0
      have HX := Lib.hid (And.intro hown (And.intro (HG.out.1.below hb1) (And.intro (HG.out.2.trans (hb1.mono hbs)) (HR.out.1.below hb1))))
      have hdl : (r.drop (j + 1)).length = n - j := by rw [List.length_drop, HR.out.2.2]; omega
      have hxl : ((cutL L j).take x).length = x := by rw [List.length_take]; omega
      have hrow : (r.take j ++ r.drop (j + 1)).length = n := by rw [List.length_append, hdl, List.length_take, HR.out.2.2]; omega
      have hjn : j + (n - j) = n := by omega
      clear hown hg1 hloc HN hb1 hsz1 e0 e0'
      have hcs : cq = j + 1 ∨ ¬ cq = j + 1 := Classical.em _
      rcases hcs with hcj | hcj
      all_goals (
        go_wp2_with (first
          | (at_builtin; refine wp_append _ rfl _ _ 29 rfl 3 _ 1 8 Try.underlying29 info_int rfl (by decide) (by decide) g1 j d1 _ rfl HX.out.1 _ _ _ (r.drop (j + 1)) rfl (by rw [hdl, Nat.mul_one]) (by first | exact ints_cellsD (j + 1) HX.out.2.2.2 | (intro y z hz; have := (List.getElem?_eq_some_iff.1 hz).1; omega)) (by omega) ?_; intro g2 d2 w2 hown2 hg2 hloc2 hsz2; have HN2 := Lib.hid (And.intro hown2 (And.intro hg2 hloc2)); clear hown2 hg2 hloc2; have hT2 := Lib.hid (HX.out.2.1.under (below_gr (Below.refl _ _) HN2.out.2.1 hg1l hz1) hlg HZ.out); simp only [hjn])
          | (at_builtin; refine wp_appendV _ rfl _ _ 23 rfl 29 _ 24 Try.underlying23 info_ints rfl (by decide) g x cap (rowVs bs ((cutL L j).take x)) rfl (by have := (hT2.out.alloc (.cells #[.slice (some ⟨g2, 0, none⟩) n d2] 29)).top; rw [hxl] at this; exact this) ⟨w2.heap.size, 0, none⟩ 1 1 [.slice (some ⟨g2, 0, none⟩) n d2] rfl rfl (cell_one_new w2 _ _) (by intro u hu; simp at hu; subst hu; rfl) (by omega) ?_; intro g3 d3 w3 hown3 hg3 hloc3 hsz3; have HN3 := Lib.hid (And.intro hown3 (And.intro hg3 hloc3)); clear hown3 hg3 hloc3))
        obtain ⟨hown3, hg3, hloc3⟩ := HN3.out
        obtain ⟨hown2, hg2, hloc2⟩ := HN2.out
        rw [hjn] at hown2
        have hg2l : wr.heap.size ≤ g2 := by rcases hloc2 with e | e <;> omega
        have hgg := (hT2.out.alloc (.cells #[.slice (some ⟨g2, 0, none⟩) n d2] 29)).push hxl (row := r.take j ++ r.drop (j + 1)) hrow hg3 hloc3 hown3 (hown2.alloc _) ⟨by omega, by omega⟩ (fun i b' c' hb' e => by have := HZ.out i b' c' hb'; omega)
        have htk : (cutL L j).take x ++ [r.take j ++ r.drop (j + 1)] = (cutL L j).take (x + 1) := by rw [List.take_add_one, cutL_row HR.out.2.1]; rfl
        rw [htk] at hgg
        exact ⟨⟨x + 1, g3, d3, _, by omega, by go_num, rfl, hgg, below_gr ((below_gr HX.out.2.2.1 hg2 (by omega) (by omega)).alloc (by omega) _) hg3 HG.out.1.low (by simp; omega)⟩, by simp [intOf]; omega⟩)
    · have e : x = n := by omega
      subst e
      rw [List.take_of_length_le (by omega)] at hg
      have HX := Lib.hid (And.intro hg.read hbr)
      clear hg hbr
      go_wp2_with fail
      go_ret
      exact ⟨_, _, rfl, HX.out.1, HX.out.2⟩
end Go.Proofs.Ythpfhbogpnhgmaa
