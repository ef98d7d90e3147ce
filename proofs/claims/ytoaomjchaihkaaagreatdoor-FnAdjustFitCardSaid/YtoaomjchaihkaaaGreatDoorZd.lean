/-
  The reference model's MatTurn and MatTimes.
  The reference model's MatTimes.
  The reference model's MatApply.
  The reference model's MatSolve.
  How the program reads matrices and columns, and sums products.
  The functions that the program makes matrices with: what each gives for both indexes.
-/
import Derived.Test.YtoaomjchaihkaaaGreatDoorZc
import Derived.Test.YtoaomjchaihkaaaGreatDoorZb
namespace Go.Proofs.YtoaomjchaihkaaaGreatDoor
open Go.RowKit
set_option linter.unusedVariables false

theorem gen_worldM {P : Program} {c : Code} {Q : Exit → Act → World → Prop} {a : Act} {W : World} (p : World → Prop) (h : p W) (k : ∀ W', p W' → c.wp P Q a W') : c.wp P Q a W := k W h
theorem rng_snoc {f : Nat → Int} {x : Nat} : (List.range x).map f ++ [f x] = (List.range (x + 1)).map f := by rw [List.range_succ, List.map_append]; rfl
theorem mkL_step {k j : Nat} {f : Mx} (h : j < k) : (mkL k f).take j ++ [(List.range k).map (fun i => f j i)] = (mkL k f).take (j + 1) := by rw [List.take_add_one, mkL_row h]; rfl
theorem one_cellA (w : World) (z : Int) (t : TypeId) : ∀ (j : Nat) (y : Int), [z][j]? = some y → (w.alloc (.cells #[.int .i64 z] t)).cell? ((⟨w.heap.size, 0, none⟩ : Addr).add j) = some (.int .i64 y) := by
  intro j y h
  have := cell_one_new w (.int .i64 z) t j (.int .i64 y) (by
    match j, h with
    | 0, h => simp at h; subst h; rfl)
  exact this
end Go.Proofs.YtoaomjchaihkaaaGreatDoor
namespace Go.Proofs.YtoaomjchaihkaaaGreatDoor
open Go.RowKit
set_option linter.unusedVariables false

/-- what two matrices that are valid give -/
def TimesAt (w : World) (k : Nat) (v : Bool) (f : Mx) (e : Ending) (w' : World) : Prop :=
  (v = true → ∃ g cap bs, e = .returned (.tuple #[.slice (some ⟨g, 0, none⟩) k cap, .bool true]) ∧ GridO w' 3 30 w.heap.size g cap bs (mkL k f)) ∧
  (v = false → ∃ g, e = .returned (.tuple #[.slice (some ⟨g, 0, none⟩) 0 0, .bool false])) ∧ Below w.heap.size w w'
theorem ent_at {L : List (List Int)} {i j : Nat} {r : List Int} {z : Int} (hr : L[i]? = some r) (hz : r[j]? = some z) : ent L i j = z := by unfold ent; rw [rowL_at hr, num_at hz]
end Go.Proofs.YtoaomjchaihkaaaGreatDoor
namespace Go.Proofs.YtoaomjchaihkaaaGreatDoor
open Go.RowKit
set_option linter.unusedVariables false

/-- a matrix, and a list that it can be applied to -/
def aplOk (L : List (List Int)) (xs : List Int) : Prop := matOk L = true ∧ xs.length = L.length ∧ ∀ x ∈ xs, -1000000 ≤ x ∧ x ≤ 1000000
noncomputable def apL (k : Nat) (L : List (List Int)) (xs : List Int) : List Int := (List.range k).map (fun i => smn k (fun j => ent L i j * num xs j))
theorem aterm_low {e : Int} {a : Mx} {k i : Nat} {xs : List Int} (hs : SmE k 1000 a) (hi : i < k) (he : 0 ≤ e) (hx : ∀ x ∈ xs, -e ≤ x ∧ x ≤ e) (hk : xs.length = k) : ∀ j, j < k → -(1000 * e) ≤ a i j * num xs j ∧ a i j * num xs j ≤ 1000 * e := fun j hj =>
  abs_mul (hs i j hi hj) (hx _ (num_mem (by omega)))
end Go.Proofs.YtoaomjchaihkaaaGreatDoor
namespace Go.Proofs.YtoaomjchaihkaaaGreatDoor
open Go.RowKit
set_option linter.unusedVariables false

/-- a column replaced -/
def putL (k : Nat) (L : List (List Int)) (c : Nat) (xs : List Int) : List (List Int) := mkL k (upc (ent L) c (num xs))
theorem row_put {k c i : Nat} {L : List (List Int)} {xs r : List Int} (hs : Sq k L) (hr : L[i]? = some r) (hc : c < k) : r.set c (num xs i) = (List.range k).map (fun j => upc (ent L) c (num xs) i j) := by
  have hrl := hs.2 r (List.mem_of_getElem? hr)
  refine list_num (by simp [hrl]) (fun j hj => ?_)
  rw [List.length_set, hrl] at hj
  rw [num_map hj]
  by_cases e : j = c
  · subst e
    rw [upd_at]
    exact num_at (by rw [List.getElem?_set, if_pos rfl, if_pos (by omega)])
  · rw [upd_ne e]
    unfold num
    rw [List.getElem?_set, if_neg (fun h => e h.symm)]
    show num r j = ent L i j
    unfold ent; rw [rowL_at hr]
set_option maxHeartbeats 4000000 in
set_option maxRecDepth 100000 in
theorem sPut (k c d j : Nat) (p q : Option Addr) (L : List (List Int)) (xs : List Int) (w : World) (h : GRead w p L) (hq : Ints w q xs) (hs : Sq k L) (hn : xs.length = k) (hk5 : k ≤ 5) (hj : j < k) :
    Calls Tryz.prog 82 #[.slice p k c, .int .i64 j, .slice q k d] w fun e w' => ∃ g cap, e = .returned (.slice (some ⟨g, 0, none⟩) k cap) ∧ GRead w' (some ⟨g, 0, none⟩) (putL k L j xs) ∧ Below w.heap.size w w' := by
  have H := Lib.hid (And.intro h (And.intro hq (And.intro hs hn)))
  clear h hq hs hn
  go_enter Tryz.func82, Tryz.ntmps82
  go_wp2_with fail
  have HE := Lib.hid (GridO.empty w 3 30 w.heap.size (Nat.le_refl _))
  go_loopw [7, 8] (fun v i wr => ∃ (x g cap : Nat) (bs : List (Nat × Nat)), x ≤ k ∧ i = .int .i64 x ∧ v = .slice (some ⟨g, 0, none⟩) x cap ∧ GridO wr 3 30 w.heap.size g cap bs ((putL k L j xs).take x) ∧ Below w.heap.size w wr) (fun _ i _ => k - (intOf i).toNat)
  case atStart => exact ⟨0, _, _, _, Nat.zero_le _, rfl, rfl, HE.out, (by repeat (first | assumption | exact Below.refl _ _ | (refine below_chain ?_ (by assumption) (by first | omega | (simp <;> omega) | simp)) | (refine Below.alloc ?_ (by first | omega | (simp <;> omega) | simp) _) | (apply below_drewN) | (apply below_drew) | (refine Below.setCell ?_ (by first | omega | (simp <;> omega) | simp) _)))⟩
  case round =>
    clear HE
    rename World => wr
    obtain ⟨x, g, cap, bs, hx, rfl, rfl, hg, hbr⟩ := hrel
    have hbs := hbr.size
    have hlg := hg.lt
    by_cases hlt : x < k
    · have hlt' : (x : Int) < (k : Int) := by omega
      obtain ⟨B, o, r, q1, cq, rfl, hr, hB, e0, hcq, hi⟩ := (H.out.1.below hbr).at (i := x) (by rw [H.out.2.2.1.1]; exact hlt)
      have hrl : r.length = k := H.out.2.2.1.2 r (List.mem_of_getElem? hr)
      rw [hrl] at e0 hcq
      obtain ⟨A, oA, rfl, hA, hcell⟩ : ∃ A oA, q1 = some ⟨A, oA, none⟩ ∧ A < wr.heap.size ∧ Ints wr (some ⟨A, oA, none⟩) r := by
        rcases hi with h | ⟨A, oA, rfl, hA, hh⟩
        · rw [h] at hrl; simp at hrl; omega
        · exact ⟨A, oA, rfl, hA, .inr ⟨A, oA, rfl, hA, hh⟩⟩
      have HR := Lib.hid (And.intro hcell (And.intro hr hrl))
      have HG := Lib.hid (And.intro hg hbr)
      have hzb := hg.z
      have HZ := Lib.hid hzb
      clear hi hcell hr hrl hg hbr hzb
      go_upto_region 6 with (at_builtin; refine wp_append _ rfl _ _ 30 rfl 3 _ 1 8 Tryz.underlying30 info_int rfl (by decide) (by decide) _ 0 0 [] rfl (Own.empty _ _ _) _ _ _ r rfl (by rw [HR.out.2.2, Nat.mul_one]) (ints_cellsA (HR.out.1.alloc _)) (by omega) ?_; intro g1 d1 w1 hown hg1 hloc hsz1; have HN := Lib.hid (And.intro hown (And.intro hg1 hloc)); clear hown hg1 hloc; simp only [Nat.zero_add])
      obtain ⟨hown, hg1, hloc⟩ := HN.out
      rw [Nat.zero_add, List.nil_append] at hown
      have hb1 : Below wr.heap.size wr w1 := below_gr ((Below.refl wr.heap.size wr).alloc (Nat.le_refl _) _) hg1 (Nat.le_refl _) (by simp)
      have hg1l : wr.heap.size ≤ g1 := by
        rcases hloc with e | e
        · omega
        · simp at e; omega
      have hz1 := hb1.size
      have hl1 := hown.lt
      obtain ⟨A2, oA2, z2, rfl, hz2, hA2, e3⟩ := ((H.out.2.1.below HG.out.2).below hb1).at (i := x) (by rw [H.out.2.2.2]; exact hlt)
      have e4 := hown.cells (i := j) (z := num r j) (at_num (by rw [HR.out.2.2]; exact hj))
      have f4 := hown.frozen j
      have hnx : Hid (num xs x = z2) := Lib.hid (num_at hz2)
      have hj' : (j : Int) < (k : Int) := by omega
      have HX := Lib.hid (And.intro hown (And.intro (HG.out.1.below hb1) (HG.out.2.trans (hb1.mono hbs))))
      have hxl : ((putL k L j xs).take x).length = x := by rw [List.length_take, show (putL k L j xs).length = k from mkL_len]; omega
      have hne : some g1 ≠ some g := by simp; omega
      have hT : Hid (GridO (w1.setCell ⟨g1, j, none⟩ (.int .i64 z2)) 3 30 w.heap.size g cap bs ((putL k L j xs).take x)) := Lib.hid (HG.out.1.below (hb1.setCell hg1l _))
      have hO : Hid (Own (w1.setCell ⟨g1, j, none⟩ (.int .i64 z2)) g1 3 1 k d1 (r.set j z2)) := Lib.hid (HX.out.1.set j z2 (by rw [HR.out.2.2]; exact hj))
      clear hown hg1 hloc HN hz2 hsz1
      go_wp2_with (at_builtin; refine wp_appendV _ rfl _ _ 63 rfl 30 _ 24 Tryz.underlying63 info_ints rfl (by decide) g x cap (rowVs bs ((putL k L j xs).take x)) rfl (by have := (hT.out.alloc (.cells #[.slice (some ⟨g1, 0, none⟩) k d1] 30)).top; rw [hxl] at this; simpa using this) _ 1 1 [.slice (some ⟨g1, 0, none⟩) k d1] rfl rfl (by have := cell_one_new (w1.setCell ⟨g1, j, none⟩ (.int .i64 z2)) (.slice (some ⟨g1, 0, none⟩) k d1) 30; simpa using this) (by intro u hu; simp at hu; subst hu; rfl) (by omega) ?_; intro g3 d3 w3 hown3 hg3 hloc3 hsz3; have HN3 := Lib.hid (And.intro hown3 (And.intro hg3 hloc3)); clear hown3 hg3 hloc3)
      obtain ⟨hown3, hg3, hloc3⟩ := HN3.out
      have hgg := (hT.out.alloc (.cells #[.slice (some ⟨g1, 0, none⟩) k d1] 30)).push hxl (row := r.set j z2) (by rw [List.length_set]; exact HR.out.2.2) hg3 hloc3 hown3 (hO.out.alloc _) ⟨by omega, by omega⟩ (fun i b' c' hb' e => by have := HZ.out i b' c' hb'; omega)
      have htk : (putL k L j xs).take x ++ [r.set j z2] = (putL k L j xs).take (x + 1) := by
        rw [← hnx.out, row_put H.out.2.2.1 HR.out.2.1 hj]; exact mkL_step hlt
      rw [htk] at hgg
      exact ⟨⟨x + 1, g3, d3, _, by omega, by go_num, rfl, hgg, below_gr (((HX.out.2.2.setCell (show w.heap.size ≤ g1 by omega) _)).alloc (by simp; omega) _) hg3 HG.out.1.low (by simp; omega)⟩, by simp [intOf]; omega⟩
    · have e : x = k := by omega
      subst e
      rw [List.take_of_length_le (by rw [show (putL x L j xs).length = x from mkL_len]; omega)] at hg
      have HX := Lib.hid (And.intro hg.read hbr)
      clear hg hbr
      go_wp2_with fail
      go_ret
      exact ⟨_, _, rfl, HX.out.1, HX.out.2⟩
/-- a matrix, and a list that its equations are solved for -/
def slvOk (L : List (List Int)) (xs : List Int) : Prop := matOk L = true ∧ xs.length = L.length ∧ det L.length (ent L) ≠ 0 ∧ ∀ x ∈ xs, -1000 ≤ x ∧ x ≤ 1000
noncomputable def slL (k : Nat) (L : List (List Int)) (xs : List Int) : List Int := (List.range k).map (fun j => det k (upc (ent L) j (num xs)))
theorem put_small {k c : Nat} {L : List (List Int)} {xs : List Int} (hs : SmE k 1000 (ent L)) (hn : xs.length = k) (hx : ∀ x ∈ xs, -1000 ≤ x ∧ x ≤ 1000) : SmE k 1000 (ent (putL k L c xs)) := fun i j hi hj => by
  show -1000 ≤ ent (mkL k _) i j ∧ ent (mkL k _) i j ≤ 1000
  rw [ent_mkL hi hj]
  by_cases e : j = c
  · subst e; rw [upd_at]; exact hx _ (num_mem (by omega))
  · rw [upd_ne e]; exact hs i j hi hj
end Go.Proofs.YtoaomjchaihkaaaGreatDoor
namespace Go.Proofs.YtoaomjchaihkaaaGreatDoor
open Go.RowKit
set_option linter.unusedVariables false

theorem ret_int' {x y : Int} (h : x = y) : Value.int IntKind.i64 x = Value.int IntKind.i64 y := by rw [h]
end Go.Proofs.YtoaomjchaihkaaaGreatDoor
namespace Go.Proofs.YtoaomjchaihkaaaGreatDoor
open Go.RowKit
set_option linter.unusedVariables false

theorem cCopied (b k c i j : Nat) (p : Option Addr) (L : List (List Int)) (w : World) (hc : w.cell? ⟨b, 0, none⟩ = some (.slice p k c)) (h : GRead w p L) (hs : Sq k L) (hi : i < k) (hj : j < k) :
    Calls Tryz.prog 125 #[.int .i64 i, .int .i64 j, .pointer (some ⟨b, 0, none⟩)] w fun e w' => e = .returned (.int .i64 (ent L i j)) ∧ w = w' := by
  obtain ⟨B, o, r, q, cq, rfl, hr, hB, e0, hcq, hI⟩ := h.at (i := i) (by rw [hs.1]; exact hi)
  have hrl := hs.2 r (List.mem_of_getElem? hr)
  rw [hrl] at e0
  obtain ⟨A, oA, z, rfl, hz, hA, e1⟩ := hI.at (i := j) (by rw [hrl]; exact hj)
  have hi' : (i : Int) < (k : Int) := by omega
  have hj' : (j : Int) < (k : Int) := by omega
  have HN : Hid (z = ent L i j) := Lib.hid (by unfold ent; rw [rowL_at hr, num_at hz])
  clear h hs hr hI hrl hz hcq
  go_enter Tryz.func125, Tryz.ntmps125
  go_wp2_with fail
  go_ret
  exact ⟨ret_int HN.out, rfl⟩
end Go.Proofs.YtoaomjchaihkaaaGreatDoor
