/-
  The reference model's MatTurn and MatTimes.
-/
import Derived.Test.YthpfhbogpnhgmaaMu
namespace Go.Proofs.Ythpfhbogpnhgmaa
open Go.RowKit
set_option linter.unusedVariables false

theorem gen_worldM {P : Program} {c : Code} {Q : Exit → Act → World → Prop} {a : Act} {W : World} (p : World → Prop) (h : p W) (k : ∀ W', p W' → c.wp P Q a W') : c.wp P Q a W := k W h
theorem rng_snoc {f : Nat → Int} {x : Nat} : (List.range x).map f ++ [f x] = (List.range (x + 1)).map f := by rw [List.range_succ, List.map_append]; rfl
theorem mkL_step {k j : Nat} {f : Mx} (h : j < k) : (mkL k f).take j ++ [(List.range k).map (fun i => f j i)] = (mkL k f).take (j + 1) := by rw [List.take_add_one, mkL_row h]; rfl
theorem one_cellA (w : World) (z : Int) (t : TypeId) : ∀ (j : Nat) (y : Int), [z][j]? = some y → (w.alloc (.cells #[.int .i64 z] t)).cell? ((⟨w.heap.size, 0, none⟩ : Addr).add j) = some (.int .i64 y) := by
  intro j y h
  have := cell_one_new w (.int .i64 z) t j (.int .i64 y) (by
    match j, h with
    | 0, h => simp at h; subst h; rfl)
  exact this
set_option maxHeartbeats 4000000 in
set_option maxRecDepth 100000 in
theorem sMatTurn_yes (k c : Nat) (p : Option Addr) (L : List (List Int)) (w : World) (h : GRead w p L) (hk : L.length = k) (hm : matOk L = true) :
    Calls Try.prog 35 #[.slice p k c] w fun e w' => ∃ g cap bs, e = .returned (.tuple #[.slice (some ⟨g, 0, none⟩) k cap, .bool true]) ∧ GridO w' 3 29 w.heap.size g cap bs (mkL k (trn (ent L))) ∧ Below w.heap.size w w' := by
  have hk5 : k ≤ 5 := by have := (matOk_true.1 hm).2.1; omega
  have hs : Sq k L := by rw [← hk]; exact matOk.sq hm
  have c1 := fun w h => Lib.hid (sMatValid k c p L true w h hk (by omega) hm)
  have H := Lib.hid (And.intro h hs)
  have HE := Lib.hid (GridO.empty w 3 29 w.heap.size (Nat.le_refl _))
  clear h hk hm hs
  go_enter Try.func35, Try.ntmps35
  go_wp2_with (go_at_call 31; (with_reducible refine ((c1 _ ?_).out).mono ?_); (focus (exact H.out.1.alloc _; done)); rintro e w' ⟨rfl, rfl⟩)
  clear c1
  go_loopw [4, 5] (fun v i wr => ∃ (j g cap : Nat) (bs : List (Nat × Nat)), j ≤ k ∧ i = .int .i64 j ∧ v = .slice (some ⟨g, 0, none⟩) j cap ∧ GridO wr 3 29 w.heap.size g cap bs ((mkL k (trn (ent L))).take j) ∧ Below w.heap.size w wr) (fun _ i _ => k - (intOf i).toNat)
  case atStart => exact ⟨0, _, _, _, Nat.zero_le _, rfl, rfl, HE.out, (by repeat (first | assumption | exact Below.refl _ _ | (refine below_chain ?_ (by assumption) (by first | omega | (simp <;> omega) | simp)) | (refine Below.alloc ?_ (by first | omega | (simp <;> omega) | simp) _) | (apply below_drewN) | (apply below_drew) | (refine Below.setCell ?_ (by first | omega | (simp <;> omega) | simp) _)))⟩
  case round =>
    clear HE
    rename World => wr
    obtain ⟨j, g, cap, bs, hj, rfl, rfl, hg, hbr⟩ := hrel
    have hbs := hbr.size
    have hlg := hg.lt
    by_cases hlt : j < k
    · have hlt' : (j : Int) < (k : Int) := by omega
      have HG := Lib.hid (And.intro hg hbr)
      have hzb := hg.z
      have HZ := Lib.hid hzb
      have HW := Lib.hid (H.out.1.below hbr)
      clear hg hbr hzb
      go_wp2_with fail
      have HE := Lib.hid (Own.empty wr 3 1)
      go_loopw [6, 7] (fun v i wz => ∃ (x gr cr : Nat), x ≤ k ∧ i = .int .i64 x ∧ v = .slice (some ⟨gr, 0, none⟩) x cr ∧ wr.heap.size ≤ gr ∧ Own wz gr 3 1 x cr ((List.range x).map (fun i => ent L i j)) ∧ Below wr.heap.size wr wz) (fun _ i _ => k - (intOf i).toNat)
      case atStart => exact ⟨0, _, _, Nat.zero_le _, rfl, rfl, Nat.le_refl _, HE.out, (by repeat (first | assumption | exact Below.refl _ _ | (refine below_chain ?_ (by assumption) (by first | omega | (simp <;> omega) | simp)) | (refine Below.alloc ?_ (by first | omega | (simp <;> omega) | simp) _) | (apply below_drewN) | (apply below_drew) | (refine Below.setCell ?_ (by first | omega | (simp <;> omega) | simp) _)))⟩
      case round =>
        clear HE
        rename World => wz
        obtain ⟨x, gr, cr, hx, rfl, rfl, hgr, ho, hbz⟩ := hrel
        have hsz := hbz.size
        have hlo := ho.lt
        have HX := Lib.hid (And.intro ho hbz)
        by_cases hxk : x < k
        · obtain ⟨B, o, r, q, cq, rfl, hr, hB, e0, hcq, hi⟩ := (HW.out.below hbz).at (i := x) (by rw [H.out.2.1]; exact hxk)
          have hrl : r.length = k := H.out.2.2 r (List.mem_of_getElem? hr)
          rw [hrl] at e0 hcq
          obtain ⟨A, oA, z, rfl, hz, hA, e1⟩ := hi.at (i := j) (by rw [hrl]; exact hlt)
          have hze : Hid (ent L x j = z) := Lib.hid (by unfold ent; rw [rowL_at hr, num_at hz])
          have hxk' : (x : Int) < (k : Int) := by omega
          clear ho hbz hr hrl hz hi
          go_wp2_with (at_builtin; refine wp_append _ rfl _ _ 29 rfl 3 _ 1 8 Try.underlying29 info_int rfl (by decide) (by decide) gr x cr _ rfl (HX.out.1.alloc _) _ _ _ [z] rfl rfl (one_cellA _ _ _) (by omega) ?_; intro g1 d1 w1 hown hg1 hloc hsz1; have HN := Lib.hid (And.intro hown (And.intro hg1 hloc)); clear hown hg1 hloc)
          obtain ⟨hown, hg1, hloc⟩ := HN.out
          rw [← hze.out, rng_snoc (f := fun i => ent L i j)] at hown
          exact ⟨⟨x + 1, g1, d1, by omega, by go_num, rfl, by rcases hloc with e | e; (omega); (simp at e; omega), hown, below_gr (HX.out.2.alloc hsz _) hg1 hgr (by simp; omega)⟩, by simp [intOf]; omega⟩
        · have e : x = k := by omega
          subst e
          have hxl : ((mkL x (trn (ent L))).take j).length = j := by rw [List.length_take, mkL_len]; omega
          clear ho hbz
          have hT : Hid (GridO wz 3 29 w.heap.size g cap bs ((mkL x (trn (ent L))).take j)) := Lib.hid (HG.out.1.below HX.out.2)
          go_wp2_with (at_builtin; refine wp_appendV _ rfl _ _ 23 rfl 29 _ 24 Try.underlying23 info_ints rfl (by decide) g j cap (rowVs bs ((mkL x (trn (ent L))).take j)) rfl (by have := (hT.out.alloc (.cells #[.slice (some ⟨gr, 0, none⟩) x cr] 29)).top; rw [hxl] at this; exact this) ⟨wz.heap.size, 0, none⟩ 1 1 [.slice (some ⟨gr, 0, none⟩) x cr] rfl rfl (cell_one_new wz _ _) (by intro u hu; simp at hu; subst hu; rfl) (by omega) ?_; intro g3 d3 w3 hown3 hg3 hloc3 hsz3; have HN3 := Lib.hid (And.intro hown3 (And.intro hg3 hloc3)); clear hown3 hg3 hloc3)
          obtain ⟨hown3, hg3, hloc3⟩ := HN3.out
          have hgg := (hT.out.alloc (.cells #[.slice (some ⟨gr, 0, none⟩) x cr] 29)).push hxl (row := (List.range x).map (fun i => ent L i j)) (by simp) hg3 hloc3 hown3 (HX.out.1.alloc _) ⟨by omega, by omega⟩ (fun i b' c' hb' e => by have := HZ.out i b' c' hb'; omega)
          have htk : (mkL x (trn (ent L))).take j ++ [(List.range x).map (fun i => ent L i j)] = (mkL x (trn (ent L))).take (j + 1) := mkL_step hlt
          rw [htk] at hgg
          exact ⟨⟨j + 1, g3, d3, _, by omega, by go_num, rfl, hgg, below_gr ((HG.out.2.trans (HX.out.2.mono hbs)).alloc (by omega) _) hg3 HG.out.1.low (by simp; omega)⟩, by simp [intOf]; omega⟩
    · have e : j = k := by omega
      subst e
      rw [List.take_of_length_le (by rw [mkL_len]; omega)] at hg
      have HX := Lib.hid (And.intro hg hbr)
      clear hg hbr
      go_wp2_with fail
      refine bodyPost_ret (v := .tuple #[.slice (some ⟨g, 0, none⟩) j cap, .bool true]) (by simp [results, Try.results35, go_sem]) rfl ⟨g, cap, bs, rfl, HX.out.1, HX.out.2⟩
theorem sMatTurn_no (k c : Nat) (p : Option Addr) (L : List (List Int)) (w : World) (h : GRead w p L) (hk : L.length = k) (hl : k ≤ 4000000000000000000) (hm : matOk L = false) :
    Calls Try.prog 35 #[.slice p k c] w fun e w' => (∃ g, e = .returned (.tuple #[.slice (some ⟨g, 0, none⟩) 0 0, .bool false])) ∧ Below w.heap.size w w' := by
  have c1 := fun w h => Lib.hid (sMatValid k c p L false w h hk hl hm)
  have H := Lib.hid h
  clear h hk hm
  go_enter Try.func35, Try.ntmps35
  go_wp2_with (go_at_call 31; (with_reducible refine ((c1 _ ?_).out).mono ?_); (focus (exact H.out.alloc _; done)); rintro e w' ⟨rfl, rfl⟩)
  refine bodyPost_ret (v := .tuple #[.slice (some ⟨w.heap.size, 0, none⟩) 0 0, .bool false]) (by simp [results, Try.results35, go_sem]) rfl ⟨⟨_, rfl⟩, (by repeat (first | assumption | exact Below.refl _ _ | (refine below_chain ?_ (by assumption) (by first | omega | (simp <;> omega) | simp)) | (refine Below.alloc ?_ (by first | omega | (simp <;> omega) | simp) _) | (apply below_drewN) | (apply below_drew) | (refine Below.setCell ?_ (by first | omega | (simp <;> omega) | simp) _)))⟩
end Go.Proofs.Ythpfhbogpnhgmaa
