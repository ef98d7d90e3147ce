/-
  The program's determinant, and matrices with a column replaced.
-/
import Derived.Test.YthpfhbogpnhgmaaMk
namespace Go.Proofs.Ythpfhbogpnhgmaa
open Go.RowKit
set_option linter.unusedVariables false

theorem small_in {k : Nat} {a : Mx} {e : Int} (h : SmE k e a) (he : e ≤ 1000000) : In64 k a := fun x y hx hy => by have := h x y hx hy; omega
theorem det_in {k : Nat} {a : Mx} (hk : k ≤ 5) (h : SmE k 1000 a) : -9223372036854775808 ≤ det k a ∧ det k a < 9223372036854775808 := by
  have h1 := det_abs (by omega) k a h
  match k, hk with
  | 0, _ => simp [fct, pw] at h1; omega
  | 1, _ => simp [fct, pw] at h1; omega
  | 2, _ => simp [fct, pw] at h1; omega
  | 3, _ => simp [fct, pw] at h1; omega
  | 4, _ => simp [fct, pw] at h1; omega
  | 5, _ => simp [fct, pw] at h1; omega
set_option maxHeartbeats 4000000 in
set_option maxRecDepth 100000 in
theorem iDet (k c : Nat) (p : Option Addr) (L : List (List Int)) (w : World) (h : GRead w p L) (hs : Sq k L) (hk : k ≤ 5) (hm : SmE k 1000 (ent L)) :
    Calls Try.prog 45 #[.slice p k c] w fun e w' => e = .returned (.int .i64 (det k (ent L))) ∧ Below w.heap.size w w' := by
  have c1 := fun w h => Lib.hid (iCopied k c p L w h hs hk)
  have H := Lib.hid h
  have HD := Lib.hid (And.intro (Drm.start hs (small_in hm (by omega))) (det_in hk hm))
  obtain ⟨D, hD⟩ : ∃ D, det k (ent L) = D := ⟨_, rfl⟩
  rw [hD] at HD ⊢
  clear h hs hm hD
  go_enter Try.func45, Try.ntmps45
  go_wp2_with (go_at_call 55; (with_reducible refine ((c1 _ ?_).out).mono ?_); (focus (exact H.out; done)); rintro e w2 ⟨g, bs, rfl, hg_w2, hb_w2⟩; have HG := Lib.hid (And.intro hg_w2 hb_w2); clear hg_w2 hb_w2)
  go_loopw [4, 11] (fun s i wr => ∃ (x : Nat) (z : Int) (M : List (List Int)) (bm : List (Nat × Nat)), x ≤ k ∧ i = .int .i64 x ∧ s = .int .i64 z ∧ Drm k x D M z ∧ GridO wr 3 29 w.heap.size g k bm M ∧ Below w.heap.size w wr) (fun _ i _ => k - (intOf i).toNat)
  case atStart => exact ⟨0, 1, L, bs, Nat.zero_le _, rfl, rfl, HD.out.1, HG.out.1, HG.out.2⟩
  case round =>
    clear HG
    rename World => wr
    obtain ⟨x, z, M, bm, hx, rfl, rfl, he, hg, hb⟩ := hrel
    by_cases hlt : x < k
    · have hlt' : (x : Int) < (k : Int) := by omega
      have c2 := fun W h => Lib.hid (iClear w.heap.size g k k x bm M W h he.sq hk he.rng he.tri hlt)
      have HX := Lib.hid (And.intro he (And.intro hg hb))
      clear he hg hb
      go_upto_region 7 with (go_at_call 56; (with_reducible refine ((c2 _ ?_).out).mono ?_); (focus (exact HX.out.2.1; done)); rintro e w3 ⟨s, L', bs', rfl, he_w3, hg_w3, hb_w3⟩)
      obtain ⟨b2, d2, r2, hb2, hr2, e2, ho2, hl2, hn2⟩ := hg_w3.at (i := x) (by rw [he_w3.sq.1]; exact hlt)
      have hrl2 := he_w3.sq.2 r2 (List.mem_of_getElem? hr2)
      rw [hrl2] at e2 ho2
      obtain ⟨y, hy⟩ : ∃ y, ent L' x x = y := ⟨_, rfl⟩
      have l2 : w3.cell? ⟨b2, x, none⟩ = some (.int .i64 y) := ho2.cells (by rw [← hy]; show r2[x]? = some (num (rowL L' x) x); rw [rowL_at hr2]; exact at_num (by rw [hrl2]; exact hlt))
      have hn := HX.out.1.next hlt he_w3
      rw [hy] at hn
      have HY := Lib.hid (And.intro hn (And.intro hg_w3 (HX.out.2.2.trans hb_w3)))
      clear hn hg_w3 hb_w3 he_w3 hy hr2 ho2
      go_wp2_with fail
      simp only [← IntWalk.i64_left]
      exact ⟨⟨x + 1, _, L', bs', by omega, by go_num, rfl, HY.out.1, HY.out.2.1, HY.out.2.2⟩, by simp [intOf]; omega⟩
    · have e : x = k := by omega
      subst e
      have HX := Lib.hid (And.intro (he.done HD.out.2) hb)
      clear he hg hb
      go_wp2_with fail
      go_ret
      exact ⟨ret_int HX.out.1, HX.out.2⟩
theorem num_setM {r : List Int} {c : Nat} {z : Int} (h : c < r.length) (j : Nat) : num (r.set c z) j = if j = c then z else num r j := by
  unfold num
  rw [List.getElem?_set]
  by_cases e : c = j
  · subst e; rw [if_pos rfl, if_pos h, if_pos rfl]; rfl
  · rw [if_neg e, if_neg (Ne.symm e)]
/-- the first rows have a column's number replaced -/
def putP (k x : Nat) (L : List (List Int)) (c : Nat) (xs : List Int) : List (List Int) := mkL k (fun i j => if i < x then upc (ent L) c (num xs) i j else ent L i j)
theorem putP_zero {k c : Nat} {L : List (List Int)} {xs : List Int} (hs : Sq k L) : putP k 0 L c xs = L := by
  rw [hs.mk]; exact mkL_congr (fun i j hi hj => by rw [if_neg (by omega), ← hs.mk])
theorem putP_done (k c : Nat) (L : List (List Int)) (xs : List Int) : putP k k L c xs = putL k L c xs := mkL_congr (fun i j hi hj => if_pos hi)
theorem putP_set {k x c : Nat} {L : List (List Int)} {xs r : List Int} (hx : x < k) (hc : c < k) (hr : (putP k x L c xs)[x]? = some r) : (putP k x L c xs).set x (r.set c (num xs x)) = putP k (x + 1) L c xs := by
  have hrl : r.length = k := mkL_sq.2 r (List.mem_of_getElem? hr)
  refine Sq.ext (n := k) ⟨by rw [List.length_set]; exact mkL_len, fun y hy => ?_⟩ mkL_sq (fun i j hi hj => ?_)
  · rcases List.mem_or_eq_of_mem_set hy with h | h
    · exact mkL_sq.2 y h
    · rw [h, List.length_set, hrl]
  · rw [ent_set (by show x < (mkL k _).length; rw [mkL_len]; exact hx)]
    show _ = ent (mkL k _) i j
    rw [ent_mkL hi hj]
    by_cases e : i = x
    · subst e
      rw [if_pos rfl, num_setM (by rw [hrl]; exact hc), if_pos (show i < i + 1 by omega)]
      by_cases e2 : j = c
      · subst e2; rw [if_pos rfl, upd_at]
      · rw [if_neg e2, upd_ne e2]
        have : num r j = ent (putP k i L c xs) i j := by unfold ent; rw [rowL_at hr]
        rw [this]
        show ent (mkL k _) i j = _
        rw [ent_mkL hi hj, if_neg (by omega)]
    · rw [if_neg e]
      show ent (mkL k _) i j = _
      rw [ent_mkL hi hj]
      by_cases e3 : i < x
      · rw [if_pos e3, if_pos (by omega)]
      · rw [if_neg e3, if_neg (by omega)]
set_option maxHeartbeats 4000000 in
set_option maxRecDepth 100000 in
theorem iWith (k c d col : Nat) (p q : Option Addr) (L : List (List Int)) (xs : List Int) (w : World) (h : GRead w p L) (hq : Ints w q xs) (hs : Sq k L) (hn : xs.length = k) (hk : k ≤ 5) (hc : col < k) :
    Calls Try.prog 52 #[.slice p k c, .int .i64 col, .slice q k d] w (Made w k (putL k L col xs)) := by
  have c1 := fun w h => Lib.hid (iCopied k c p L w h hs hk)
  have H := Lib.hid (And.intro h (And.intro hq (And.intro hs hn)))
  clear h hq hs hn
  go_enter Try.func52, Try.ntmps52
  go_wp2_with (go_at_call 55; (with_reducible refine ((c1 _ ?_).out).mono ?_); (focus (exact H.out.1; done)); rintro e w2 ⟨g, bs, rfl, hg_w2, hb_w2⟩; have HG := Lib.hid (And.intro hg_w2 hb_w2); clear hg_w2 hb_w2)
  go_loopw [14] (fun i wr => ∃ x : Nat, x ≤ k ∧ i = .int .i64 x ∧ GridO wr 3 29 w.heap.size g k bs (putP k x L col xs) ∧ Below w.heap.size w wr) (fun i _ => k - (intOf i).toNat)
  case atStart => exact ⟨0, Nat.zero_le _, rfl, by rw [putP_zero H.out.2.2.1]; exact HG.out.1, HG.out.2⟩
  case round =>
    clear HG
    rename World => wr
    obtain ⟨x, hx, rfl, hg, hb⟩ := hrel
    have hlg := hg.lt
    by_cases hlt : x < k
    · have hlt' : (x : Int) < (k : Int) := by omega
      have hcol' : (col : Int) < (k : Int) := by omega
      obtain ⟨B, o, z, rfl, hz, hB, e0⟩ := (H.out.2.1.below hb).at (i := x) (by rw [H.out.2.2.2]; exact hlt)
      obtain ⟨b2, d2, r2, hb2, hr2, e2, ho2, hl2, hn2⟩ := hg.at (i := x) (by show x < (mkL k _).length; rw [mkL_len]; exact hlt)
      have hrl2 : r2.length = k := mkL_sq.2 r2 (List.mem_of_getElem? hr2)
      rw [hrl2] at e2 ho2
      have e3 := ho2.cells (i := col) (at_num (by rw [hrl2]; exact hc))
      have f3 := ho2.frozen col
      have hst := putP_set hlt hc hr2
      rw [num_at hz] at hst
      have g3 := hg.setRow hb2 hr2 (r' := r2.set col z) (by rw [List.length_set]) (by rw [List.length_set, hrl2]; exact ho2.set col z (by rw [hrl2]; exact hc)) (gb_oneO _ _ _ _)
      rw [hst] at g3
      have HX := Lib.hid (And.intro g3 (hb.setCell (p := ⟨b2, col, none⟩) hl2 (.int .i64 z)))
      clear hg hb hz hr2 ho2 hst g3
      go_wp2_with fail
      go_roundw
      case rel => exact ⟨x + 1, by omega, by go_num, HX.out.1, HX.out.2⟩
      case measure => simp [intOf]; omega
    · have e : x = k := by omega
      subst e
      rw [putP_done] at hg
      have HX := Lib.hid (And.intro hg hb)
      clear hg hb
      go_wp2_with fail
      go_ret
      exact ⟨g, bs, rfl, HX.out.1, HX.out.2⟩
end Go.Proofs.Ythpfhbogpnhgmaa
