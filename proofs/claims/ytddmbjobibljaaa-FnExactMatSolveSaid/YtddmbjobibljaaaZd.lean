/-
  The reference model's MatTurn and MatTimes.
  The reference model's MatTimes.
  The reference model's MatApply.
  The reference model's MatSolve.
  How the program reads matrices and columns, and sums products.
  The functions that the program makes matrices with: what each gives for both indexes.
-/
import Derived.Test.YtddmbjobibljaaaZc
import Derived.Test.YtddmbjobibljaaaZb
namespace Go.Proofs.Ytddmbjobibljaaa
open Go.RowKit
set_option linter.unusedVariables false

theorem gen_worldM {P : Program} {c : Code} {Q : Exit → Act → World → Prop} {a : Act} {W : World} (p : World → Prop) (h : p W) (k : ∀ W', p W' → c.wp P Q a W') : c.wp P Q a W := k W h
theorem rng_snoc {f : Nat → Int} {x : Nat} : (List.range x).map f ++ [f x] = (List.range (x + 1)).map f := by rw [List.range_succ, List.map_append]; rfl
theorem mkL_step {k j : Nat} {f : Mx} (h : j < k) : (mkL k f).take j ++ [(List.range k).map (fun i => f j i)] = (mkL k f).take (j + 1) := by rw [List.take_add_one, mkL_row h]; rfl
theorem one_cellA (w : World) (z : Int) (t : TypeId) : ∀ (j : Nat) (y : Int), [z][j]? = some y → (w.alloc (.cells #[.int .i64 z] t)).cell? ((⟨w.heap.size, 0, none⟩ : Addr).add j) = some (.int .i64 y) := by
  intro j y h
  have := cell_one_new w (.int .i64 z) t j (.int .i64 y) (by
    match j, h with
    | 0, h => simp at h; subst h; rfl)
  exact this
end Go.Proofs.Ytddmbjobibljaaa
namespace Go.Proofs.Ytddmbjobibljaaa
open Go.RowKit
set_option linter.unusedVariables false

/-- what two matrices that are valid give -/
def TimesAt (w : World) (k : Nat) (v : Bool) (f : Mx) (e : Ending) (w' : World) : Prop :=
  (v = true → ∃ g cap bs, e = .returned (.tuple #[.slice (some ⟨g, 0, none⟩) k cap, .bool true]) ∧ GridO w' 3 23 w.heap.size g cap bs (mkL k f)) ∧
  (v = false → ∃ g, e = .returned (.tuple #[.slice (some ⟨g, 0, none⟩) 0 0, .bool false])) ∧ Below w.heap.size w w'
theorem ent_at {L : List (List Int)} {i j : Nat} {r : List Int} {z : Int} (hr : L[i]? = some r) (hz : r[j]? = some z) : ent L i j = z := by unfold ent; rw [rowL_at hr, num_at hz]
end Go.Proofs.Ytddmbjobibljaaa
namespace Go.Proofs.Ytddmbjobibljaaa
open Go.RowKit
set_option linter.unusedVariables false

/-- a matrix, and a list that it can be applied to -/
def aplOk (L : List (List Int)) (xs : List Int) : Prop := matOk L = true ∧ xs.length = L.length ∧ ∀ x ∈ xs, -1000000 ≤ x ∧ x ≤ 1000000
noncomputable def apL (k : Nat) (L : List (List Int)) (xs : List Int) : List Int := (List.range k).map (fun i => smn k (fun j => ent L i j * num xs j))
theorem aterm_low {e : Int} {a : Mx} {k i : Nat} {xs : List Int} (hs : SmE k 1000 a) (hi : i < k) (he : 0 ≤ e) (hx : ∀ x ∈ xs, -e ≤ x ∧ x ≤ e) (hk : xs.length = k) : ∀ j, j < k → -(1000 * e) ≤ a i j * num xs j ∧ a i j * num xs j ≤ 1000 * e := fun j hj =>
  abs_mul (hs i j hi hj) (hx _ (num_mem (by omega)))
end Go.Proofs.Ytddmbjobibljaaa
namespace Go.Proofs.Ytddmbjobibljaaa
open Go.RowKit
set_option linter.unusedVariables false

/-- a column replaced -/
def putL (k : Nat) (L : List (List Int)) (c : Nat) (xs : List Int) : List (List Int) := mkL k (upc (ent L) c (num xs))
theorem row_put {k c i : Nat} {L : List (List Int)} {xs r : List Int} (hs : Sq k L) (hr : L[i]? = some r) (hc : c < k) : r.set c (num xs i) = (List.range k).map (fun j => upc (ent L) c (num xs) i j) := by
  have hrl := hs.2 r (List.mem_of_getElem? hr)
  refine list_num (by simp [hrl]) (fun j hj => ?_)
  rw [List.length_set, hrl] at hj
  rw [num_map hj]
  by_cases e : j = c
  · subst e
    rw [upd_at]
    exact num_at (by rw [List.getElem?_set, if_pos rfl, if_pos (by omega)])
  · rw [upd_ne e]
    unfold num
    rw [List.getElem?_set, if_neg (fun h => e h.symm)]
    show num r j = ent L i j
    unfold ent; rw [rowL_at hr]
set_option maxHeartbeats 4000000 in
set_option maxRecDepth 100000 in
theorem sPut (k c d j : Nat) (p q : Option Addr) (L : List (List Int)) (xs : List Int) (w : World) (h : GRead w p L) (hq : Ints w q xs) (hs : Sq k L) (hn : xs.length = k) (hk5 : k ≤ 5) (hj : j < k) :
    Calls Try.prog 39 #[.slice p k c, .int .i64 j, .slice q k d] w fun e w' => ∃ g cap, e = .returned (.slice (some ⟨g, 0, none⟩) k cap) ∧ GRead w' (some ⟨g, 0, none⟩) (putL k L j xs) ∧ Below w.heap.size w w' := by
  have H := Lib.hid (And.intro h (And.intro hq (And.intro hs hn)))
  clear h hq hs hn
  go_enter Try.func39, Try.ntmps39
  go_wp2_with fail
  have HE := Lib.hid (GridO.empty w 3 23 w.heap.size (Nat.le_refl _))
  go_loopw [7, 8] (fun v i wr => ∃ (x g cap : Nat) (bs : List (Nat × Nat)), x ≤ k ∧ i = .int .i64 x ∧ v = .slice (some ⟨g, 0, none⟩) x cap ∧ GridO wr 3 23 w.heap.size g cap bs ((putL k L j xs).take x) ∧ Below w.heap.size w wr) (fun _ i _ => k - (intOf i).toNat)
  case atStart => exact ⟨0, _, _, _, Nat.zero_le _, rfl, rfl, HE.out, (by repeat (first | assumption | exact Below.refl _ _ | (refine below_chain ?_ (by assumption) (by first | omega | (simp <;> omega) | simp)) | (refine Below.alloc ?_ (by first | omega | (simp <;> omega) | simp) _) | (apply below_drewN) | (apply below_drew) | (refine Below.setCell ?_ (by first | omega | (simp <;> omega) | simp) _)))⟩
  case round =>
    clear HE
    rename World => wr
    obtain ⟨x, g, cap, bs, hx, rfl, rfl, hg, hbr⟩ := hrel
    have hbs := hbr.size
    have hlg := hg.lt
    by_cases hlt : x < k
    · have hlt' : (x : Int) < (k : Int) := by omega
      obtain ⟨B, o, r, q1, cq, rfl, hr, hB, e0, hcq, hi⟩ := (H.out.1.below hbr).at (i := x) (by rw [H.out.2.2.1.1]; exact hlt)
      have hrl : r.length = k := H.out.2.2.1.2 r (List.mem_of_getElem? hr)
      rw [hrl] at e0 hcq
      obtain ⟨A, oA, rfl, hA, hcell⟩ : ∃ A oA, q1 = some ⟨A, oA, none⟩ ∧ A < wr.heap.size ∧ Ints wr (some ⟨A, oA, none⟩) r := by
        rcases hi with h | ⟨A, oA, rfl, hA, hh⟩
        · rw [h] at hrl; simp at hrl; omega
        · exact ⟨A, oA, rfl, hA, .inr ⟨A, oA, rfl, hA, hh⟩⟩
      have HR := Lib.hid (And.intro hcell (And.intro hr hrl))
      have HG := Lib.hid (And.intro hg hbr)
      have hzb := hg.z
      have HZ := Lib.hid hzb
      clear hi hcell hr hrl hg hbr hzb
      go_upto_region 6 with (at_builtin; refine wp_append _ rfl _ _ 23 rfl 3 _ 1 8 Try.underlying23 info_int rfl (by decide) (by decide) _ 0 0 [] rfl (Own.empty _ _ _) _ _ _ r rfl (by rw [HR.out.2.2, Nat.mul_one]) (ints_cellsA (HR.out.1.alloc _)) (by omega) ?_; intro g1 d1 w1 hown hg1 hloc hsz1; have HN := Lib.hid (And.intro hown (And.intro hg1 hloc)); clear hown hg1 hloc; simp only [Nat.zero_add])
      obtain ⟨hown, hg1, hloc⟩ := HN.out
      rw [Nat.zero_add, List.nil_append] at hown
      have hb1 : Below wr.heap.size wr w1 := below_gr ((Below.refl wr.heap.size wr).alloc (Nat.le_refl _) _) hg1 (Nat.le_refl _) (by simp)
      have hg1l : wr.heap.size ≤ g1 := by
        rcases hloc with e | e
        · omega
        · simp at e; omega
      have hz1 := hb1.size
      have hl1 := hown.lt
      obtain ⟨A2, oA2, z2, rfl, hz2, hA2, e3⟩ := ((H.out.2.1.below HG.out.2).below hb1).at (i := x) (by rw [H.out.2.2.2]; exact hlt)
      have e4 := hown.cells (i := j) (z := num r j) (at_num (by rw [HR.out.2.2]; exact hj))
      have f4 := hown.frozen j
      have hnx : Hid (num xs x = z2) := Lib.hid (num_at hz2)
      have hj' : (j : Int) < (k : Int) := by omega
      have HX := Lib.hid (And.intro hown (And.intro (HG.out.1.below hb1) (HG.out.2.trans (hb1.mono hbs))))
      have hxl : ((putL k L j xs).take x).length = x := by rw [List.length_take, show (putL k L j xs).length = k from mkL_len]; omega
      have hne : some g1 ≠ some g := by simp; omega
      have hT : Hid (GridO (w1.setCell ⟨g1, j, none⟩ (.int .i64 z2)) 3 23 w.heap.size g cap bs ((putL k L j xs).take x)) := Lib.hid (HG.out.1.below (hb1.setCell hg1l _))
      have hO : Hid (Own (w1.setCell ⟨g1, j, none⟩ (.int .i64 z2)) g1 3 1 k d1 (r.set j z2)) := Lib.hid (HX.out.1.set j z2 (by rw [HR.out.2.2]; exact hj))
      clear hown hg1 hloc HN hz2 hsz1
      go_wp2_with (at_builtin; refine wp_appendV _ rfl _ _ 33 rfl 23 _ 24 Try.underlying33 info_ints rfl (by decide) g x cap (rowVs bs ((putL k L j xs).take x)) rfl (by have := (hT.out.alloc (.cells #[.slice (some ⟨g1, 0, none⟩) k d1] 23)).top; rw [hxl] at this; simpa using this) _ 1 1 [.slice (some ⟨g1, 0, none⟩) k d1] rfl rfl (by have := cell_one_new (w1.setCell ⟨g1, j, none⟩ (.int .i64 z2)) (.slice (some ⟨g1, 0, none⟩) k d1) 23; simpa using this) (by intro u hu; simp at hu; subst hu; rfl) (by omega) ?_; intro g3 d3 w3 hown3 hg3 hloc3 hsz3; have HN3 := Lib.hid (And.intro hown3 (And.intro hg3 hloc3)); clear hown3 hg3 hloc3)
      obtain ⟨hown3, hg3, hloc3⟩ := HN3.out
      have hgg := (hT.out.alloc (.cells #[.slice (some ⟨g1, 0, none⟩) k d1] 23)).push hxl (row := r.set j z2) (by rw [List.length_set]; exact HR.out.2.2) hg3 hloc3 hown3 (hO.out.alloc _) ⟨by omega, by omega⟩ (fun i b' c' hb' e => by have := HZ.out i b' c' hb'; omega)
      have htk : (putL k L j xs).take x ++ [r.set j z2] = (putL k L j xs).take (x + 1) := by
        rw [← hnx.out, row_put H.out.2.2.1 HR.out.2.1 hj]; exact mkL_step hlt
      rw [htk] at hgg
      exact ⟨⟨x + 1, g3, d3, _, by omega, by go_num, rfl, hgg, below_gr (((HX.out.2.2.setCell (show w.heap.size ≤ g1 by omega) _)).alloc (by simp; omega) _) hg3 HG.out.1.low (by simp; omega)⟩, by simp [intOf]; omega⟩
    · have e : x = k := by omega
      subst e
      rw [List.take_of_length_le (by rw [show (putL x L j xs).length = x from mkL_len]; omega)] at hg
      have HX := Lib.hid (And.intro hg.read hbr)
      clear hg hbr
      go_wp2_with fail
      go_ret
      exact ⟨_, _, rfl, HX.out.1, HX.out.2⟩
/-- a matrix, and a list that its equations are solved for -/
def slvOk (L : List (List Int)) (xs : List Int) : Prop := matOk L = true ∧ xs.length = L.length ∧ det L.length (ent L) ≠ 0 ∧ ∀ x ∈ xs, -1000 ≤ x ∧ x ≤ 1000
noncomputable def slL (k : Nat) (L : List (List Int)) (xs : List Int) : List Int := (List.range k).map (fun j => det k (upc (ent L) j (num xs)))
theorem put_small {k c : Nat} {L : List (List Int)} {xs : List Int} (hs : SmE k 1000 (ent L)) (hn : xs.length = k) (hx : ∀ x ∈ xs, -1000 ≤ x ∧ x ≤ 1000) : SmE k 1000 (ent (putL k L c xs)) := fun i j hi hj => by
  show -1000 ≤ ent (mkL k _) i j ∧ ent (mkL k _) i j ≤ 1000
  rw [ent_mkL hi hj]
  by_cases e : j = c
  · subst e; rw [upd_at]; exact hx _ (num_mem (by omega))
  · rw [upd_ne e]; exact hs i j hi hj
set_option maxHeartbeats 4000000 in
set_option maxRecDepth 100000 in
theorem sMatSolve_yes (k c d : Nat) (p q : Option Addr) (L : List (List Int)) (xs : List Int) (w : World) (h : GRead w p L) (hq : Ints w q xs) (hk : L.length = k) (hok : slvOk L xs) :
    Calls Try.prog 15 #[.slice p k c, .slice q k d] w fun e w' => ∃ g cap, e = .returned (.tuple #[.slice (some ⟨g, 0, none⟩) k cap, .int .i64 (det k (ent L)), .bool true]) ∧ w.heap.size ≤ g ∧ Own w' g 3 1 k cap (slL k L xs) ∧ Below w.heap.size w w' := by
  obtain ⟨hm, hl, hdt, hx⟩ := hok
  rw [hk] at hdt
  have hk5 : k ≤ 5 := by have := (matOk_true.1 hm).2.1; omega
  have hn : xs.length = k := by omega
  have hs : Sq k L := by rw [← hk]; exact matOk.sq hm
  have hsm : SmE k 1000 (ent L) := by rw [← hk]; exact matOk.small hm
  have c1 := fun w h => Lib.hid (sMatValid k c p L true w h hk (by omega) hm)
  have c2 := fun w h => Lib.hid (sDet k c p L w h hs hk5 hsm)
  have c3 := fun w h hq => Lib.hid (fun j hj => sPut k c d j p q L xs w h hq hs hn hk5 hj)
  have c4 := fun j g cap w h => Lib.hid (sDet k cap (some ⟨g, 0, none⟩) (putL k L j xs) w h mkL_sq hk5 (put_small hsm hn hx))
  obtain ⟨D, hD⟩ : ∃ D, det k (ent L) = D := ⟨_, rfl⟩
  rw [hD] at hdt c2 ⊢
  have hD0 : (D == 0) = false := by simpa using hdt
  have H := Lib.hid (And.intro h (And.intro hq (And.intro hs (And.intro hsm (And.intro hn hx)))))
  clear h hq hk hm hl hx hn hs hsm hdt hD
  go_enter Try.func15, Try.ntmps15
  go_wp2_with (first
    | (go_at_call 37; (with_reducible refine ((c1 _ ?_).out).mono ?_); (focus (exact H.out.1.alloc _; done)); rintro e w' ⟨rfl, rfl⟩)
    | (go_at_call 38; (with_reducible refine ((c2 _ ?_).out).mono ?_); (focus (exact H.out.1.alloc _; done)); rintro e w1 ⟨rfl, hb_w1⟩))
  have HB : Hid (Own w1 w.heap.size 3 1 0 0 [] ∧ Below w.heap.size w w1) := Lib.hid ⟨(Own.empty w 3 1).below hb_w1, ((Below.refl w.heap.size w).alloc (Nat.le_refl _) _).trans (hb_w1.mono (by simp))⟩
  have hbs := HB.out.2.size
  have hls := HB.out.1.lt
  clear hb_w1 c1
  go_loopw [8] (fun i wr => ∃ j : Nat, j ≤ k ∧ i = .int .i64 j ∧ w1 = wr) (fun i _ => k - (intOf i).toNat)
  case atStart => exact ⟨0, Nat.zero_le _, rfl, rfl⟩
  case round =>
    obtain ⟨j, hj, rfl, rfl⟩ := hrel
    by_cases hlt : j < k
    · have hlt' : (j : Int) < (k : Int) := by omega
      obtain ⟨A2, oA2, z2, rfl, hz2, hA2, e3⟩ := (H.out.2.1.below HB.out.2).at (i := j) (by rw [H.out.2.2.2.2.1]; exact hlt)
      have c5 := fun w => Lib.hid (nIn z2 (-1000) 1000 true w (decide_eq_true (H.out.2.2.2.2.2 z2 (List.mem_of_getElem? hz2))))
      clear hz2
      go_wp2_with ((go_at_call 25; (with_reducible refine ((c5 _).out).mono ?_); rintro e w' ⟨rfl, rfl⟩))
      go_roundw
      case rel => exact ⟨j + 1, by omega, by go_num, by first | trivial | rfl⟩
      case measure => simp [intOf]; omega
    · have e : j = k := by omega
      subst e
      go_wp2_with fail
      go_loopw [7, 9] (fun o i wr => ∃ (x g cap : Nat), x ≤ j ∧ i = .int .i64 x ∧ o = .slice (some ⟨g, 0, none⟩) x cap ∧ w.heap.size ≤ g ∧ Own wr g 3 1 x cap ((List.range x).map (fun i => det j (upc (ent L) i (num xs)))) ∧ Below w.heap.size w wr) (fun _ i _ => j - (intOf i).toNat)
      case atStart => exact ⟨0, _, _, Nat.zero_le _, rfl, rfl, Nat.le_refl _, HB.out.1, HB.out.2⟩
      case round =>
        clear HB hbs hls
        rename World => wr
        obtain ⟨x, g, cap, hx, rfl, rfl, hgw, hg, hbr⟩ := hrel
        have hbs := hbr.size
        have hlg := hg.lt
        have HG := Lib.hid (And.intro hg hbr)
        clear hg hbr
        by_cases hxk : x < j
        · have hxk' : (x : Int) < (j : Int) := by omega
          obtain ⟨E, hE⟩ : ∃ E, det j (upc (ent L) x (num xs)) = E := ⟨_, rfl⟩
          have c6 := fun g cap w h => c4 x g cap w h
          have e6 : det j (ent (putL j L x xs)) = E := by rw [← hE]; exact det_mkL _
          rw [e6] at c6
          have HE := Lib.hid hE
          clear e6 hE c4
          go_wp2_with (first
            | (go_at_call 39; (with_reducible refine ((c3 _ ?_ ?_).out x hxk).mono ?_); (focus (exact H.out.1.below HG.out.2; done)); (focus (exact H.out.2.1.below HG.out.2; done)); rintro e w2 ⟨g2, d2, rfl, hg2, hb_w2⟩; have HG2 := Lib.hid hg2; clear hg2)
            | (go_at_call 38; (with_reducible refine ((c6 _ _ _ ?_).out).mono ?_); (focus (exact HG2.out; done)); rintro e w3 ⟨rfl, hb_w3⟩; have HB3 := Lib.hid (hb_w2.trans (hb_w3.mono hb_w2.size)); have hz3 := HB3.out.size; clear hb_w2 hb_w3)
            | (at_builtin; refine wp_append _ rfl _ _ 23 rfl 3 _ 1 8 Try.underlying23 info_int rfl (by decide) (by decide) g x cap _ rfl ((HG.out.1.below HB3.out).alloc _) _ _ _ [E] rfl rfl (one_cellA _ _ _) (by omega) ?_; intro g1 d1 w4 hown hg1 hloc hsz1; have HN1 := Lib.hid (And.intro hown (And.intro hg1 hloc)); clear hown hg1 hloc))
          obtain ⟨hown, hg1, hloc⟩ := HN1.out
          rw [← HE.out, rng_snoc (f := fun i => det j (upc (ent L) i (num xs)))] at hown
          exact ⟨⟨x + 1, g1, d1, by omega, by go_num, rfl, by rcases hloc with e | e; (omega); (simp at e; omega), hown, below_gr ((HG.out.2.trans (HB3.out.mono hbs)).alloc (by omega) _) hg1 hgw (by simp; omega)⟩, by simp [intOf]; omega⟩
        · have e : x = j := by omega
          subst e
          go_wp2_with (go_at_call 38; (with_reducible refine ((c2 _ ?_).out).mono ?_); (focus (exact H.out.1.below HG.out.2; done)); rintro e w3 ⟨rfl, hb_w3⟩)
          refine bodyPost_ret (v := .tuple #[.slice (some ⟨g, 0, none⟩) x cap, .int .i64 D, .bool true]) (by simp [results, Try.results15, go_sem]) rfl ⟨g, cap, rfl, hgw, HG.out.1.below hb_w3, HG.out.2.trans (hb_w3.mono hbs)⟩
set_option maxHeartbeats 4000000 in
set_option maxRecDepth 100000 in
theorem sMatSolve_no (k n c d : Nat) (p q : Option Addr) (L : List (List Int)) (xs : List Int) (w : World) (h : GRead w p L) (hq : Ints w q xs) (hk : L.length = k) (hn : xs.length = n) (hl : k ≤ 4000000000000000000) (hl2 : n ≤ 4000000000000000000) (hno : ¬ slvOk L xs) :
    Calls Try.prog 15 #[.slice p k c, .slice q n d] w fun e w' => (∃ g, e = .returned (.tuple #[.slice (some ⟨g, 0, none⟩) 0 0, .int .i64 0, .bool false])) ∧ Below w.heap.size w w' := by
  obtain ⟨u, hu⟩ : ∃ u, matOk L = u := ⟨_, rfl⟩
  have c1 := fun w h => Lib.hid (sMatValid k c p L u w h hk hl hu)
  cases u
  · have H := Lib.hid h
    clear h hq hk hn hno hu
    go_enter Try.func15, Try.ntmps15
    go_wp2_with (go_at_call 37; (with_reducible refine ((c1 _ ?_).out).mono ?_); (focus (exact H.out.alloc _; done)); rintro e w' ⟨rfl, rfl⟩)
    refine bodyPost_ret (v := .tuple #[.slice (some ⟨w.heap.size, 0, none⟩) 0 0, .int .i64 0, .bool false]) (by simp [results, Try.results15, go_sem]) rfl ⟨⟨_, rfl⟩, (by repeat (first | assumption | exact Below.refl _ _ | (refine below_chain ?_ (by assumption) (by first | omega | (simp <;> omega) | simp)) | (refine Below.alloc ?_ (by first | omega | (simp <;> omega) | simp) _) | (apply below_drewN) | (apply below_drew) | (refine Below.setCell ?_ (by first | omega | (simp <;> omega) | simp) _)))⟩
  · by_cases hnk : n = k
    · subst hnk
      have hk5 : n ≤ 5 := by have := (matOk_true.1 hu).2.1; omega
      have hs : Sq n L := by rw [← hk]; exact matOk.sq hu
      have hsm : SmE n 1000 (ent L) := by rw [← hk]; exact matOk.small hu
      have c2 := fun w h => Lib.hid (sDet n c p L w h hs hk5 hsm)
      obtain ⟨D, hD⟩ : ∃ D, det n (ent L) = D := ⟨_, rfl⟩
      rw [hD] at c2
      by_cases hD0 : D = 0
      · subst hD0
        have H := Lib.hid h
        clear h hq hk hn hno hu hs hsm hD
        go_enter Try.func15, Try.ntmps15
        go_wp2_with (first
          | (go_at_call 37; (with_reducible refine ((c1 _ ?_).out).mono ?_); (focus (exact H.out.alloc _; done)); rintro e w' ⟨rfl, rfl⟩)
          | (go_at_call 38; (with_reducible refine ((c2 _ ?_).out).mono ?_); (focus (exact H.out.alloc _; done)); rintro e w1 ⟨rfl, hb_w1⟩))
        refine bodyPost_ret (v := .tuple #[.slice (some ⟨w.heap.size, 0, none⟩) 0 0, .int .i64 0, .bool false]) (by simp [results, Try.results15, go_sem]) rfl ⟨⟨_, rfl⟩, ((Below.refl w.heap.size w).alloc (Nat.le_refl _) _).trans (hb_w1.mono (by simp))⟩
      · have hbad : ¬ ∀ x ∈ xs, -1000 ≤ x ∧ x ≤ 1000 := fun hc => hno ⟨hu, by omega, by rw [hk, hD]; exact hD0, hc⟩
        have hD0' : (D == 0) = false := by simpa using hD0
        have H := Lib.hid (And.intro h (And.intro hq (And.intro hn hbad)))
        clear h hq hk hn hno hu hs hsm hD hbad hD0
        go_enter Try.func15, Try.ntmps15
        go_wp2_with (first
          | (go_at_call 37; (with_reducible refine ((c1 _ ?_).out).mono ?_); (focus (exact H.out.1.alloc _; done)); rintro e w' ⟨rfl, rfl⟩)
          | (go_at_call 38; (with_reducible refine ((c2 _ ?_).out).mono ?_); (focus (exact H.out.1.alloc _; done)); rintro e w1 ⟨rfl, hb_w1⟩))
        have HB : Hid (Below w.heap.size w w1) := Lib.hid (((Below.refl w.heap.size w).alloc (Nat.le_refl _) _).trans (hb_w1.mono (by simp)))
        have hbs := HB.out.size
        clear hb_w1 c1 c2
        go_loopw [8] (fun i wr => ∃ j : Nat, j ≤ n ∧ i = .int .i64 j ∧ (∀ z ∈ xs.take j, -1000 ≤ z ∧ z ≤ 1000) ∧ w1 = wr) (fun i _ => n - (intOf i).toNat)
        case atStart => exact ⟨0, Nat.zero_le _, rfl, by simp, rfl⟩
        case round =>
          obtain ⟨j, hj, rfl, hr, rfl⟩ := hrel
          by_cases hlt : j < n
          · have hlt' : (j : Int) < (n : Int) := by omega
            obtain ⟨A2, oA2, z2, rfl, hz2, hA2, e3⟩ := (H.out.2.1.below HB.out).at (i := j) (by rw [H.out.2.2.1]; exact hlt)
            by_cases hin : -1000 ≤ z2 ∧ z2 ≤ 1000
            · have c5 := fun w => Lib.hid (nIn z2 (-1000) 1000 true w (decide_eq_true hin))
              have HN : Hid (∀ z ∈ xs.take (j + 1), -1000 ≤ z ∧ z ≤ 1000) := Lib.hid (by
                rw [List.take_add_one, hz2]; intro y hy
                rcases List.mem_append.1 hy with h | h
                · exact hr y h
                · simp at h; subst h; exact hin)
              clear hr hz2 hin
              go_wp2_with ((go_at_call 25; (with_reducible refine ((c5 _).out).mono ?_); rintro e w' ⟨rfl, rfl⟩))
              go_roundw
              case rel => exact ⟨j + 1, by omega, by go_num, HN.out, by first | trivial | rfl⟩
              case measure => simp [intOf]; omega
            · have c5 := fun w => Lib.hid (nIn z2 (-1000) 1000 false w (decide_eq_false hin))
              clear hr hz2 hin
              go_wp2_with ((go_at_call 25; (with_reducible refine ((c5 _).out).mono ?_); rintro e w' ⟨rfl, rfl⟩))
              refine bodyPost_ret (v := .tuple #[.slice (some ⟨w1.heap.size, 0, none⟩) 0 0, .int .i64 0, .bool false]) (by simp [results, Try.results15, go_sem]) rfl ⟨⟨_, rfl⟩, HB.out.alloc hbs _⟩
          · have e : j = n := by omega
            subst e
            exact absurd (by rw [List.take_of_length_le (Nat.le_of_eq H.out.2.2.1)] at hr; exact hr) H.out.2.2.2
    · have hnk' : ¬ (n : Int) = (k : Int) := by omega
      have H := Lib.hid h
      clear h hq hk hn hno hu
      go_enter Try.func15, Try.ntmps15
      go_wp2_with (go_at_call 37; (with_reducible refine ((c1 _ ?_).out).mono ?_); (focus (exact H.out.alloc _; done)); rintro e w' ⟨rfl, rfl⟩)
      refine bodyPost_ret (v := .tuple #[.slice (some ⟨w.heap.size, 0, none⟩) 0 0, .int .i64 0, .bool false]) (by simp [results, Try.results15, go_sem]) rfl ⟨⟨_, rfl⟩, (by repeat (first | assumption | exact Below.refl _ _ | (refine below_chain ?_ (by assumption) (by first | omega | (simp <;> omega) | simp)) | (refine Below.alloc ?_ (by first | omega | (simp <;> omega) | simp) _) | (apply below_drewN) | (apply below_drew) | (refine Below.setCell ?_ (by first | omega | (simp <;> omega) | simp) _)))⟩
end Go.Proofs.Ytddmbjobibljaaa
namespace Go.Proofs.Ytddmbjobibljaaa
open Go.RowKit
set_option linter.unusedVariables false

theorem ret_int' {x y : Int} (h : x = y) : Value.int IntKind.i64 x = Value.int IntKind.i64 y := by rw [h]
theorem iAllWithin (k c : Nat) (p : Option Addr) (L : List Int) (m : Int) (b : Bool) (w : World) (h : Ints w p L) (hk : L.length = k) (hl : k ≤ 4000000000000000000) (hm : 0 ≤ m) (hm' : m ≤ 4000000000000000000) (hb : decide (∀ z ∈ L, -m ≤ z ∧ z ≤ m) = b) :
    Calls Try.prog 45 #[.slice p k c, .int .i64 m] w fun e w' => e = .returned (.bool b) ∧ w = w' := by
  have H := Lib.hid (And.intro h (And.intro hk hb))
  clear h hk hb
  go_enter Try.func45, Try.ntmps45
  go_wp2_with fail
  go_loopw [9] (fun i wr => ∃ j : Nat, j ≤ k ∧ i = .int .i64 j ∧ (∀ z ∈ L.take j, -m ≤ z ∧ z ≤ m) ∧ w = wr) (fun i _ => k - (intOf i).toNat)
  case atStart => exact ⟨0, Nat.zero_le _, rfl, by simp, rfl⟩
  case round =>
    obtain ⟨j, hj, rfl, hn, rfl⟩ := hrel
    by_cases hlt : j < k
    · obtain ⟨B, o, y, rfl, hy, hB, e0⟩ := H.out.1.at (i := j) (by have := H.out.2.1; omega)
      have hlt' : (j : Int) < (k : Int) := by omega
      by_cases hyz : -m ≤ y ∧ y ≤ m
      · have c1 := fun w => Lib.hid (nWithin y m true w hm hm' (decide_eq_true hyz))
        have HN : Hid (∀ z ∈ L.take (j + 1), -m ≤ z ∧ z ≤ m) := Lib.hid (by
          rw [List.take_add_one, hy]; intro z hz
          rcases List.mem_append.1 hz with h | h
          · exact hn z h
          · simp at h; subst h; exact hyz)
        clear hy hn hyz
        go_wp2_with ((go_at_call 43; (with_reducible refine ((c1 _).out).mono ?_); rintro e w' ⟨rfl, rfl⟩))
        go_roundw
        case rel => exact ⟨j + 1, by omega, by go_num, HN.out, by first | trivial | rfl⟩
        case measure => simp [intOf]; omega
      · have c1 := fun w => Lib.hid (nWithin y m false w hm hm' (decide_eq_false hyz))
        have HB : Hid (false = b) := Lib.hid (by
          rw [← H.out.2.2]
          exact (decide_eq_false (fun hc => hyz (hc y (List.mem_of_getElem? hy)))).symm)
        clear hy hn hyz
        go_wp2_with ((go_at_call 43; (with_reducible refine ((c1 _).out).mono ?_); rintro e w' ⟨rfl, rfl⟩))
        go_ret
        exact ⟨ret_bool HB.out, rfl⟩
    · have e : j = k := by omega
      subst e
      have HB : Hid (true = b) := Lib.hid (by
        rw [← H.out.2.2]
        rw [List.take_of_length_le (Nat.le_of_eq H.out.2.1)] at hn
        exact (decide_eq_true hn).symm)
      clear hn
      go_wp2_with fail
      go_ret
      exact ⟨ret_bool HB.out, rfl⟩
/-- a column of as many numbers as there are rows, within a limit -/
theorem iColumn (k n c d : Nat) (p q : Option Addr) (xs : List Int) (m : Int) (b : Bool) (w : World) (h : Ints w q xs) (hn : xs.length = n) (hl : k ≤ 4000000000000000000) (hm : 0 ≤ m) (hm' : m ≤ 4000000000000000000) (hb : decide (n = k ∧ ∀ z ∈ xs, -m ≤ z ∧ z ≤ m) = b) :
    Calls Try.prog 34 #[.slice p k c, .slice q n d, .int .i64 m] w fun e w' => e = .returned (.bool b) ∧ w = w' := by
  by_cases e : n = k
  · have c1 := fun w h => Lib.hid (iAllWithin n d q xs m b w h hn (by omega) hm hm' (by rw [← hb]; exact decide_eq_decide.2 ⟨fun h => ⟨e, h⟩, fun h => h.2⟩))
    have H := Lib.hid h
    subst e
    clear h hn hb
    go_enter Try.func34, Try.ntmps34
    go_wp2_with (go_at_call 45; (with_reducible refine ((c1 _ ?_).out).mono ?_); (focus (exact H.out; done)); rintro e w' ⟨rfl, rfl⟩)
    go_ret
    exact ⟨rfl, rfl⟩
  · have e' : ¬ (n : Int) = (k : Int) := by omega
    have HB : Hid (false = b) := Lib.hid (by rw [← hb]; exact (decide_eq_false (fun h => e h.1)).symm)
    clear h hn hb
    go_enter Try.func34, Try.ntmps34
    go_wp2_with fail
    go_ret
    exact ⟨ret_bool HB.out, rfl⟩
theorem iMatValidW (k c : Nat) (p : Option Addr) (L : List (List Int)) (b : Bool) (w : World) (h : GRead w p L) (hk : L.length = k) (hb : matOk L = b) :
    Calls Try.prog 33 #[.slice p k c] w fun e w' => e = .returned (.bool b) ∧ w = w' := by
  have H := Lib.hid (And.intro h (And.intro hk hb))
  clear h hk hb
  by_cases hr : 1 ≤ k ∧ k ≤ 5
  · obtain ⟨hr1, hr5⟩ := hr
    go_enter Try.func33, Try.ntmps33
    go_wp2_with fail
    go_loopw [15] (fun i wr => ∃ j : Nat, j ≤ k ∧ i = .int .i64 j ∧ (∀ r ∈ L.take j, rowOk k r) ∧ w = wr) (fun i _ => k - (intOf i).toNat)
    case atStart => exact ⟨0, Nat.zero_le _, rfl, by simp, rfl⟩
    case round =>
      obtain ⟨j, hj, rfl, hn, rfl⟩ := hrel
      by_cases hlt : j < k
      · obtain ⟨B, o, r, q, cq, rfl, hr, hB, e0, hcq, hi⟩ := H.out.1.at (i := j) (by have := H.out.2.1; omega)
        have hlt' : (j : Int) < (k : Int) := by omega
        obtain ⟨n, hrn⟩ : ∃ n, r.length = n := ⟨_, rfl⟩
        rw [hrn] at e0
        have HI := Lib.hid hi
        by_cases hrk : rowOk k r
        · have c1 := fun p c w h => Lib.hid (iColumn k n c cq p q r 1000 true w h hrn (by omega) (by omega) (by omega) (decide_eq_true ⟨by rw [← hrn]; exact hrk.1, hrk.2⟩))
          have HN : Hid (∀ r ∈ L.take (j + 1), rowOk k r) := Lib.hid (by
            rw [List.take_add_one, hr]; intro y hy
            rcases List.mem_append.1 hy with h | h
            · exact hn y h
            · simp at h; subst h; exact hrk)
          clear hn hr hrk hrn hi hcq
          go_wp2_with (go_at_call 34; (with_reducible refine ((c1 _ _ _ ?_).out).mono ?_); (focus (exact HI.out; done)); rintro e w' ⟨rfl, rfl⟩)
          go_roundw
          case rel => exact ⟨j + 1, by omega, by go_num, HN.out, by first | trivial | rfl⟩
          case measure => simp [intOf]; omega
        · have c1 := fun p c w h => Lib.hid (iColumn k n c cq p q r 1000 false w h hrn (by omega) (by omega) (by omega) (decide_eq_false (fun h => hrk ⟨by rw [hrn]; exact h.1, h.2⟩)))
          have HB : Hid (false = b) := Lib.hid (by
            rw [← H.out.2.2]
            exact (matOk_no H.out.2.1 (fun hc => hrk (hc.2 r (List.mem_of_getElem? hr)))).symm)
          clear hn hr hrk hrn hi hcq
          go_wp2_with (go_at_call 34; (with_reducible refine ((c1 _ _ _ ?_).out).mono ?_); (focus (exact HI.out; done)); rintro e w' ⟨rfl, rfl⟩)
          go_ret
          exact ⟨ret_bool HB.out, rfl⟩
      · have e : j = k := by omega
        subst e
        have HB : Hid (true = b) := Lib.hid (by
          obtain ⟨h, hk, hb⟩ := H.out
          rw [List.take_of_length_le (Nat.le_of_eq hk)] at hn
          rw [← hb]
          exact ((matOk_rows hk).2 ⟨⟨hr1, hr5⟩, hn⟩).symm)
        clear hn
        go_wp2_with fail
        go_ret
        exact ⟨ret_bool HB.out, rfl⟩
  · have HB : Hid (false = b) := Lib.hid (by rw [← H.out.2.2]; exact (matOk_no H.out.2.1 (fun hc => hr hc.1)).symm)
    go_enter Try.func33, Try.ntmps33
    by_cases h1 : k < 1
    · have h1' : (k : Int) < 1 := by omega
      go_wp2_with fail
      go_ret
      exact ⟨ret_bool HB.out, rfl⟩
    · have h1' : ¬ (k : Int) < 1 := by omega
      have h5 : (5 : Int) < (k : Int) := by omega
      go_wp2_with fail
      go_ret
      exact ⟨ret_bool HB.out, rfl⟩
/-- a sum of products -/
theorem iProductSum (n c d : Nat) (p q : Option Addr) (xs ys : List Int) (w : World) (h : Ints w p xs) (hq : Ints w q ys) (hn : xs.length = n) (hm : ys.length = n) (h5 : n ≤ 5) (hx : ∀ i, i < n → -1000 ≤ num xs i ∧ num xs i ≤ 1000) (hy : ∀ i, i < n → -1000000 ≤ num ys i ∧ num ys i ≤ 1000000) :
    Calls Try.prog 40 #[.slice p n c, .slice q n d] w fun e w' => e = .returned (.int .i64 (smn n (fun i => num xs i * num ys i))) ∧ w = w' := by
  have H := Lib.hid (And.intro h (And.intro hq (And.intro hn (And.intro hm (And.intro hx hy)))))
  clear h hq hn hm hx hy
  go_enter Try.func40, Try.ntmps40
  go_wp2_with fail
  go_loopw [5, 11] (fun s i wr => ∃ j : Nat, j ≤ n ∧ i = .int .i64 j ∧ s = .int .i64 (smn j (fun i => num xs i * num ys i)) ∧ w = wr) (fun _ i _ => n - (intOf i).toNat)
  case atStart => exact ⟨0, Nat.zero_le _, rfl, rfl, rfl⟩
  case round =>
    obtain ⟨j, hj, rfl, rfl, rfl⟩ := hrel
    have hb := sm_abs (n := j) (f := fun i => num xs i * num ys i) (c := 1000000000) (fun i hi => by
      have := abs_mul (x := 1000) (y := 1000000) (H.out.2.2.2.2.1 i (by omega)) (H.out.2.2.2.2.2 i (by omega)); omega)
    obtain ⟨s, hs⟩ : ∃ s, smn j (fun i => num xs i * num ys i) = s := ⟨_, rfl⟩
    rw [hs] at hb ⊢
    by_cases hlt : j < n
    · obtain ⟨B, o, y, rfl, hy, hB, e0⟩ := H.out.1.at (i := j) (by rw [H.out.2.2.1]; exact hlt)
      obtain ⟨B2, o2, z, rfl, hz, hB2, e2⟩ := H.out.2.1.at (i := j) (by rw [H.out.2.2.2.1]; exact hlt)
      have hlt' : (j : Int) < (n : Int) := by omega
      have hyb := H.out.2.2.2.2.1 j hlt
      have hzb := H.out.2.2.2.2.2 j hlt
      rw [num_at hy] at hyb
      rw [num_at hz] at hzb
      have hpb := abs_mul (x := 1000) (y := 1000000) hyb hzb
      have HN : Hid (smn (j + 1) (fun i => num xs i * num ys i) = s + y * z) := Lib.hid (by simp only [smn]; rw [hs, num_at hy, num_at hz])
      obtain ⟨P, hP⟩ : ∃ P, y * z = P := ⟨_, rfl⟩
      rw [hP] at hpb HN
      have q1 : IntKind.i64.wrap (y * z) = P := by rw [hP, IntKind.wrap_i64]; omega
      have q2 : IntKind.i64.wrap (s + P) = s + P := by rw [IntKind.wrap_i64]; omega
      clear hy hz hs
      go_wp2_with fail
      exact ⟨⟨j + 1, by omega, by go_num, ret_int' HN.out.symm, trivial⟩, by simp [intOf]; omega⟩
    · have e : j = n := by omega
      subst e
      have HN := Lib.hid hs
      clear hs
      go_wp2_with fail
      go_ret
      exact ⟨ret_int HN.out.symm, rfl⟩
end Go.Proofs.Ytddmbjobibljaaa
namespace Go.Proofs.Ytddmbjobibljaaa
open Go.RowKit
set_option linter.unusedVariables false

theorem cCopied (b k c i j : Nat) (p : Option Addr) (L : List (List Int)) (w : World) (hc : w.cell? ⟨b, 0, none⟩ = some (.slice p k c)) (h : GRead w p L) (hs : Sq k L) (hi : i < k) (hj : j < k) :
    Calls Try.prog 52 #[.int .i64 i, .int .i64 j, .pointer (some ⟨b, 0, none⟩)] w fun e w' => e = .returned (.int .i64 (ent L i j)) ∧ w = w' := by
  obtain ⟨B, o, r, q, cq, rfl, hr, hB, e0, hcq, hI⟩ := h.at (i := i) (by rw [hs.1]; exact hi)
  have hrl := hs.2 r (List.mem_of_getElem? hr)
  rw [hrl] at e0
  obtain ⟨A, oA, z, rfl, hz, hA, e1⟩ := hI.at (i := j) (by rw [hrl]; exact hj)
  have hi' : (i : Int) < (k : Int) := by omega
  have hj' : (j : Int) < (k : Int) := by omega
  have HN : Hid (z = ent L i j) := Lib.hid (by unfold ent; rw [rowL_at hr, num_at hz])
  clear h hs hr hI hrl hz hcq
  go_enter Try.func52, Try.ntmps52
  go_wp2_with fail
  go_ret
  exact ⟨ret_int HN.out, rfl⟩
end Go.Proofs.Ytddmbjobibljaaa
