/-
  For every two codes the law FnSolve returns true: impl.MatSolve answers as the reference model does; the matrix laid on what it says is the list times the determinant, and what a list is laid to is solved by the list times the determinant. No condition: every two lists of bytes are taken.
-/
import Derived.Test.YtddmbjobibljaaaMj
import Derived.Test.YtddmbjobibljaaaDMe
import Derived.Test.YtddmbjobibljaaaZc
namespace Go.Proofs.Ytddmbjobibljaaa.fnSolve
open Go.ChangeShapes Go.WideShapes Go.ChangeAt Go.RowKit
set_option linter.unusedVariables false

theorem num_slL {k i : Nat} {L : List (List Int)} {xs : List Int} (hi : i < k) : num (slL k L xs) i = det k (upc (ent L) i (num xs)) := by
  unfold slL
  exact num_at (by rw [List.getElem?_map, List.getElem?_range hi]; rfl)
theorem slL_len {k : Nat} {L : List (List Int)} {xs : List Int} : (slL k L xs).length = k := by simp [slL]
theorem upc_small {k i : Nat} {a : Mx} {v : Nat → Int} (h : SmE k 1000 a) (hv : ∀ j, j < k → -1000 ≤ v j ∧ v j ≤ 1000) : SmE k 1000 (upc a i v) := fun r s hr hs => by
  unfold upc
  by_cases e : s = i
  · rw [if_pos e]; exact hv r hr
  · rw [if_neg e]; exact h r s hr hs
/-- the matrix laid on what it says -/
theorem solve_row {k i : Nat} {L : List (List Int)} {xs : List Int} (hi : i < k) : smn k (fun t => ent L i t * num (slL k L xs) t) = num xs i * det k (ent L) := by
  rw [← cramer (ent L) (num xs) hi]
  exact sm_congr (fun t ht => by rw [num_slL ht])
/-- what a list is laid to, solved -/
theorem solve_back {k i : Nat} {L : List (List Int)} {ts : List Int} (hi : i < k) : num (slL k L (apL k L ts)) i = num ts i * det k (ent L) := by
  rw [num_slL hi, ← cramer_back (ent L) hi (num ts)]
  exact det_congr (fun r s hr hs => by
    unfold upc
    by_cases e : s = i
    · rw [if_pos e, if_pos e, num_apL hr]
    · rw [if_neg e, if_neg e])
set_option maxHeartbeats 8000000 in
set_option maxRecDepth 100000 in
theorem walk (len cap : Nat) (p : Option Addr) (len2 cap2 : Nat) (p2 : Option Addr) (w : World) (hl : len ≤ 1048576) (hl2 : len2 ≤ 1048576) (h : Hid (Code' w (.slice p len cap))) (h2 : Hid (Code' w (.slice p2 len2 cap2))) :
    Calls Try.prog 4 #[.slice p len cap, .slice p2 len2 cap2] w fun e w' => e = .returned (.bool true) ∧ Below w.heap.size w w' := by
  have hl' : ¬ (1048576 : Int) < (len : Int) := by omega
  have hl2' : ¬ (1048576 : Int) < (len2 : Int) := by omega
  have hl2'' : len2 ≤ 1048576 := hl2
  clear h2
  go_enter Try.func4, Try.ntmps4
  go_upto_region 4 with (go_at_call 13; (with_reducible refine (drawMatSolve_is _ _ h).mono ?_); rintro e wd ⟨L, bs, g, k, c, m, d, q, xs, rfl, hd, hx⟩; have HG := Lib.hid hd.2.1; have hb_wd := hd.2.2; have hk5 := hd.1.2.1; have hm4 := hx.2.1; have HD := Lib.hid (And.intro hd.1.1 (And.intro hx.1 hx)); have hs_wd := hb_wd.size; have hgl := hd.2.1.lt; clear hd hx)
  clear h
  have hI : Hid (Ints wd q xs) := Lib.hid HD.out.2.2.ints
  by_cases hok : slvOk L xs
  · have hmk : m = k := by rw [← HD.out.1, ← HD.out.2.1]; exact hok.2.1
    subst hmk
    have hk1 : 1 ≤ m := by have := (matOk_true.1 hok.1).1; have := HD.out.1; omega
    have hs := matOk.small hok.1
    rw [HD.out.1] at hs
    obtain ⟨A, hA⟩ : ∃ A, slL m L xs = A := ⟨_, rfl⟩
    have hAl : A.length = m := by rw [← hA]; exact slL_len
    obtain ⟨D, hD⟩ : ∃ D, det m (ent L) = D := ⟨_, rfl⟩
    have hDb := det_small hm4 hs
    rw [hD] at hDb
    have hAb : ∀ i, i < m → -24000000000000 ≤ num A i ∧ num A i ≤ 24000000000000 := fun i hi => by
      rw [← hA, num_slL hi]
      exact det_small hm4 (upc_small hs (fun j hj => hok.2.2.2 _ (num_mem (by rw [HD.out.2.1]; exact hj))))
    have hrow : ∀ i, i < m → smn m (fun t => ent L i t * num A t) = num xs i * D := fun i hi => by rw [← hA, ← hD]; exact solve_row hi
    have c1 := fun w h hq => Lib.hid (iMatSolve_yes m c d (some ⟨g, 0, none⟩) q L xs w h hq HD.out.1 hok)
    have c2 := fun w h hq => Lib.hid (sMatSolve_yes m c d (some ⟨g, 0, none⟩) q L xs w h hq HD.out.1 hok)
    rw [hA, hD] at c1 c2
    have HO := Lib.hid (And.intro hok (And.intro hAl (And.intro hAb (And.intro hrow (And.intro hs hD)))))
    clear hok hA hAl hD hAb hrow hs
    go_upto_region 8 with (first | (go_at_call 14; (with_reducible refine ((c1 _ ?_ ?_).out).mono ?_); (focus ((exact HG.out.read); done)); (focus ((exact hI.out); done)); rintro e wi ⟨gi, ci, rfl, hgi, oi, hb_wi⟩; have hs_wi := hb_wi.size; (try simp at hs_wi)) | (go_at_call 15; (with_reducible refine ((c2 _ ?_ ?_).out).mono ?_); (focus ((exact HG.out.read.below hb_wi); done)); (focus ((exact hI.out.below hb_wi); done)); rintro e ws ⟨gs, cs, rfl, hgs, os, hb_ws⟩; have hs_ws := hb_ws.size; (try simp at hs_ws)) | (go_at_call 16; (with_reducible refine (sameI_at HO.out.2.1 _ _ _ _ _ ?_ ?_ (by omega)).mono ?_); (focus ((exact oi.ints.below hb_ws); done)); (focus ((exact os.ints); done)); rintro e wt ⟨rfl, hb_wt⟩; have hs_wt := hb_wt.size; (try simp at hs_wt)))
    have hBt : Below wd.heap.size wd wt := (by repeat (first | assumption | exact Below.refl _ _ | (refine below_chain ?_ (by assumption) (by first | omega | (simp <;> omega) | simp)) | (refine Below.alloc ?_ (by first | omega | (simp <;> omega) | simp) _) | (apply below_drewN) | (apply below_drew) | (refine Below.setCell ?_ (by first | omega | (simp <;> omega) | simp) _)))
    have hBi : Below wi.heap.size wi wt := hb_ws.trans (hb_wt.mono hs_ws)
    have hBw : Below w.heap.size w wt := hb_wd.trans (hBt.mono hs_wd)
    have HX := Lib.hid (And.intro (hI.out.below hBt) (And.intro (HG.out.below hBt) (And.intro (oi.below hBi) hBw)))
    clear hb_wd hb_wi hb_ws hb_wt hBt hBi hBw oi os HG hI c1 c2
    have hst := HX.out.2.2.2.size
    have hgz := HX.out.2.1.lt
    have hgiz := HX.out.2.2.1.lt
    obtain ⟨hD1, hD2⟩ := hDb
    go_wp2_with fail
    have HE := Lib.hid (Own.empty wt 3 1)
    go_loopw [13, 14] (fun v i wr => ∃ (n gr cr : Nat) (T : List Int), n ≤ m ∧ i = .int .i64 n ∧ v = .slice (some ⟨gr, 0, none⟩) n cr ∧ (T.length = n ∧ ∀ x ∈ T, -2 ≤ x ∧ x ≤ 2) ∧ wt.heap.size ≤ gr ∧ Own wr gr 3 1 n cr T ∧ Below wt.heap.size wt wr) (fun _ i _ => m - (intOf i).toNat)
    case atStart => exact ⟨0, _, _, [], Nat.zero_le _, rfl, rfl, ⟨rfl, by simp⟩, Nat.le_refl _, HE.out, (by repeat (first | assumption | exact Below.refl _ _ | (refine below_chain ?_ (by assumption) (by first | omega | (simp <;> omega) | simp)) | (refine Below.alloc ?_ (by first | omega | (simp <;> omega) | simp) _) | (apply below_drewN) | (apply below_drew) | (refine Below.setCell ?_ (by first | omega | (simp <;> omega) | simp) _)))⟩
    case round =>
      clear HE
      rename World => wr
      obtain ⟨n, gr, cr, T, hn, rfl, rfl, hT, hgr, ho, hbr⟩ := hrel
      have hsr := hbr.size
      have hlo := ho.lt
      have HT := Lib.hid (And.intro ho (And.intro hbr hT))
      clear ho hbr hT
      by_cases hlt : n < m
      · have hlt' : (n : Int) < (m : Int) := by omega
        go_wp2_with fail
        go_loopw [15, 16] (fun s y wz => ∃ (j : Nat), j ≤ m ∧ y = .int .i64 j ∧ s = .int .i64 (smn j (fun t => ent L n t * num A t)) ∧ Below wr.heap.size wr wz) (fun _ y _ => m - (intOf y).toNat)
        case atStart => exact ⟨0, Nat.zero_le _, rfl, rfl, Below.refl _ _⟩
        case round =>
          rename World => wz
          obtain ⟨j, hj, rfl, rfl, hbz⟩ := hrel
          have hsz := hbz.size
          have hsb := sm_abs (n := j) (f := fun t => ent L n t * num A t) (c := 24000000000000000) (fun t ht => by
            have h1 := HO.out.2.2.2.2.1 n t hlt (by omega)
            have h2 := HO.out.2.2.1 t (by omega)
            have := abs_mul h1 h2
            omega)
          obtain ⟨s, hs⟩ : ∃ s, smn j (fun t => ent L n t * num A t) = s := ⟨_, rfl⟩
          rw [hs] at hsb ⊢
          have hs1 : -96000000000000000 ≤ s := by
            have h5 : (j : Int) * 24000000000000000 ≤ 4 * 24000000000000000 := Int.mul_le_mul_of_nonneg_right (by omega) (by omega)
            omega
          have hs2 : s ≤ 96000000000000000 := by
            have h5 : (j : Int) * 24000000000000000 ≤ 4 * 24000000000000000 := Int.mul_le_mul_of_nonneg_right (by omega) (by omega)
            omega
          have HZ := Lib.hid (And.intro hbz hs)
          by_cases hjm : j < m
          · have hjm' : (j : Int) < (m : Int) := by omega
            have hbw := HT.out.2.1.trans (hbz.mono hsr)
            obtain ⟨b, c', r, hb, hr, e0, hor, hlb, hbg⟩ := (HX.out.2.1.below hbw).at (i := n) (by rw [HD.out.1]; exact hlt)
            have hrl : r.length = m := by have := ((matOk_true.1 HO.out.1.1).2.2 r (List.mem_of_getElem? hr)).1; rw [this, HD.out.1]
            have eR := hor.cells (at_num (l := r) (i := j) (by rw [hrl]; exact hjm))
            have hre : num r j = ent L n j := by unfold ent; rw [rowL_at hr]
            rw [hre] at eR
            rw [hrl] at e0
            have eA := (HX.out.2.2.1.below hbw).cells (at_num (l := A) (i := j) (by rw [HO.out.2.1]; exact hjm))
            have h1 := HO.out.2.2.2.2.1 n j hlt hjm
            have h2 := HO.out.2.2.1 j hjm
            have h3 := abs_mul h1 h2
            obtain ⟨x1, hx1⟩ : ∃ x, ent L n j = x := ⟨_, rfl⟩
            obtain ⟨x2, hx2⟩ : ∃ x, num A j = x := ⟨_, rfl⟩
            rw [hx1, hx2] at h3
            rw [hx1] at eR
            rw [hx2] at eA
            obtain ⟨pr, hpr⟩ : ∃ x, x1 * x2 = x := ⟨_, rfl⟩
            rw [hpr] at h3
            have h31 : -24000000000000000 ≤ pr := by omega
            have h32 : pr ≤ 24000000000000000 := by omega
            have hnx : Hid (smn (j + 1) (fun t => ent L n t * num A t) = s + pr) := Lib.hid (by rw [smn, hs, hx1, hx2, hpr])
            have hlr := hor.lt
            have hlA := (HX.out.2.2.1.below hbw).lt
            have hlG := (HX.out.2.1.below hbw).lt
            clear hb hr hor hre hrl hbz hbw hs hsb h1 h2 h3 hx1 hx2
            go_wp2_with fail
            (refine wp_region_grows (by kernel_rfl) (by kernel_rfl) ?_; intro W_wg hWc_wg hWs_wg hWe_wg; (repeat (go_big_quiet_step (fail))); with_reducible refine wpQuiet_nil ?_; clear hWe_wg hWs_wg hWc_wg W_wg; intro wg hb_wg; obtain ⟨hc_wg, hf_wg⟩ := bcell hb_wg; (try simp only [World.size_drew, World.cell?_drew, World.frozen?_drew, World.heap_drewN, World.cell?_drewN, World.frozen?_drewN] at hc_wg hf_wg); have hs_wg := hb_wg.size; (try simp at hs_wg))
            go_wp2_with fail
            go_roundw
            case rel => exact ⟨j + 1, by omega, by go_num, by rw [hnx.out], HZ.out.1.trans (hb_wg.mono hsz)⟩
            case measure => simp [intOf]; omega
          · have e : j = m := by omega
            subst e
            have hbw := HT.out.2.1.trans (hbz.mono hsr)
            obtain ⟨B', o', z, rfl, hzx, hB', e1⟩ := (HX.out.1.below hbw).at (i := n) (by rw [HD.out.2.1]; exact hlt)
            have hzb := HO.out.1.2.2.2 z (List.mem_of_getElem? hzx)
            have hxy : z * D = s := by rw [← num_at hzx, ← hs]; exact (HO.out.2.2.2.1 n hlt).symm
            obtain ⟨hz1, hz2⟩ := hzb
            obtain ⟨t, ht, ht5⟩ : ∃ t : Nat, ((n : Int) + (len2 : Int)) % 5 = (t : Int) ∧ t < 5 := ⟨(n + len2) % 5, by omega, by omega⟩
            have hgrz := (HT.out.1.below hbz).lt
            have HTz := Lib.hid (HT.out.1.below hbz)
            clear hbz hs hsb hzx hbw
            go_wp2_with (at_builtin; refine wp_append _ rfl _ _ 23 rfl 3 _ 1 8 Try.underlying23 info_int rfl (by decide) (by decide) gr n cr _ rfl (HTz.out.alloc _) _ _ _ [(t : Int) - 2] rfl rfl (one_cellA _ _ _) (by omega) ?_; intro g1 d1 w1 hown hg1 hloc hsz1; have HN := Lib.hid (And.intro hown (And.intro hg1 hloc)); clear hown hg1 hloc)
            obtain ⟨hown, hg1, hloc⟩ := HN.out
            have hbb := HT.out.2.1.trans (HZ.out.1.mono hsr)
            exact ⟨⟨n + 1, g1, d1, _, by omega, by go_num, rfl, ⟨by rw [List.length_append, HT.out.2.2.1]; rfl, fun x hx => by
              rcases List.mem_append.1 hx with hx | hx
              · exact HT.out.2.2.2 x hx
              · simp at hx; omega⟩, by rcases hloc with e | e; (omega); (simp at e; omega), hown, below_gr (hbb.alloc (by omega) _) hg1 hgr (by simp; omega)⟩, by simp [intOf]; omega⟩
      · have e : n = m := by omega
        subst e
        have hokT : aplOk L T := ⟨HO.out.1.1, by rw [HT.out.2.2.1, HD.out.1], fun x hx => by have := HT.out.2.2.2 x hx; omega⟩
        obtain ⟨C, hC⟩ : ∃ C, apL n L T = C := ⟨_, rfl⟩
        have hCl : C.length = n := by rw [← hC]; simp [apL]
        have c1 := fun w h hq => Lib.hid (iMatApply_yes n c cr (some ⟨g, 0, none⟩) (some ⟨gr, 0, none⟩) L T w h hq HD.out.1 hokT)
        rw [hC] at c1
        clear hokT
        have HW := Lib.hid (HX.out.2.2.2.trans (HT.out.2.1.mono hst))
        have hsw := HW.out.size
        by_cases hok2 : slvOk L C
        · obtain ⟨E, hE⟩ : ∃ E, slL n L C = E := ⟨_, rfl⟩
          have hEl : E.length = n := by rw [← hE]; exact slL_len
          have hEx : ∀ i, i < n → num E i = num T i * D := fun i hi => by rw [← hE, ← hC, ← HO.out.2.2.2.2.2]; exact solve_back hi
          have c2 := fun (k' : Nat) q w h hq => Lib.hid (iMatSolve_yes n c k' (some ⟨g, 0, none⟩) q L C w h hq HD.out.1 hok2)
          rw [hE, HO.out.2.2.2.2.2] at c2
          have HE := Lib.hid (And.intro hEl hEx)
          clear hok2 hE hEl hEx hC hCl
          go_wp2_with (first | (go_at_call 17; (with_reducible refine ((c1 _ ?_ ?_).out).mono ?_); (focus ((exact HX.out.2.1.read.below HT.out.2.1); done)); (focus ((exact HT.out.1.ints); done)); rintro e wa ⟨ga, ca, rfl, hga, oa, hb_wa⟩; have hs_wa := hb_wa.size; (try simp at hs_wa)) | (go_at_call 14; (with_reducible refine ((c2 _ _ _ ?_ ?_).out).mono ?_); (focus ((exact (HX.out.2.1.read.below HT.out.2.1).below hb_wa); done)); (focus ((exact oa.ints); done)); rintro e wb ⟨gb, cb, rfl, hgb, ob, hb_wb⟩; have hs_wb := hb_wb.size; (try simp at hs_wb)))
          have HB := Lib.hid (And.intro ob (And.intro ((HT.out.1.below hb_wa).below hb_wb) (HW.out.trans ((hb_wa.trans (hb_wb.mono hs_wa)).mono hsw))))
          have hszw := HB.out.2.2.size
          clear ob oa hb_wa hb_wb c1 c2
          go_loopw [22] (fun i wr => ∃ j : Nat, j ≤ n ∧ i = .int .i64 j ∧ Below wb.heap.size wb wr) (fun i _ => n - (intOf i).toNat)
          case atStart => exact ⟨0, Nat.zero_le _, rfl, Below.refl _ _⟩
          case round =>
            obtain ⟨j, hj, rfl, hbr⟩ := hrel
            have hbs := hbr.size
            by_cases hjn : j < n
            · have hjn' : (j : Int) < (n : Int) := by omega
              have eE := (HB.out.1.below hbr).cells (at_num (l := E) (i := j) (by rw [HE.out.1]; exact hjn))
              have eT := (HB.out.2.1.below hbr).cells (at_num (l := T) (i := j) (by rw [HT.out.2.2.1]; exact hjn))
              have h1 := HE.out.2 j hjn
              have h2 := HT.out.2.2.2 (num T j) (num_mem (by rw [HT.out.2.2.1]; exact hjn))
              obtain ⟨x, hx⟩ : ∃ x, num T j = x := ⟨_, rfl⟩
              rw [h1, hx] at eE
              rw [hx] at eT h2
              obtain ⟨pr, hpr⟩ : ∃ y, x * D = y := ⟨_, rfl⟩
              have h3 := abs_mul h2 (show -24000000000000 ≤ D ∧ D ≤ 24000000000000 from ⟨hD1, hD2⟩)
              rw [hpr] at h3 eE
              obtain ⟨h31, h32⟩ := h3
              have hlE := (HB.out.1.below hbr).lt
              have hlT := (HB.out.2.1.below hbr).lt
              have HBr := Lib.hid hbr
              clear hbr h1 h2 hx
              go_wp2_with fail
              (refine wp_region_grows (by kernel_rfl) (by kernel_rfl) ?_; intro W_wg hWc_wg hWs_wg hWe_wg; (repeat (go_big_quiet_step (fail))); with_reducible refine wpQuiet_nil ?_; clear hWe_wg hWs_wg hWc_wg W_wg; intro wg hb_wg; obtain ⟨hc_wg, hf_wg⟩ := bcell hb_wg; (try simp only [World.size_drew, World.cell?_drew, World.frozen?_drew, World.heap_drewN, World.cell?_drewN, World.frozen?_drewN] at hc_wg hf_wg); have hs_wg := hb_wg.size; (try simp at hs_wg))
              go_wp2_with fail
              go_roundw
              case rel => exact ⟨j + 1, by omega, by go_num, HBr.out.trans (hb_wg.mono hbs)⟩
              case measure => simp [intOf]; omega
            · have e : j = n := by omega
              subst e
              go_wp2_with fail
              exact bodyPost_ret (v := .bool true) (by simp [results, Try.results4, go_sem]) rfl ⟨rfl, HB.out.2.2.trans (hbr.mono hszw)⟩
        · have c2 := fun (k' : Nat) q w h hq => Lib.hid (iMatSolve_no n n c k' (some ⟨g, 0, none⟩) q L C w h hq HD.out.1 hCl (by omega) (by omega) hok2)
          clear hok2 hC hCl
          go_wp2_with (first | (go_at_call 17; (with_reducible refine ((c1 _ ?_ ?_).out).mono ?_); (focus ((exact HX.out.2.1.read.below HT.out.2.1); done)); (focus ((exact HT.out.1.ints); done)); rintro e wa ⟨ga, ca, rfl, hga, oa, hb_wa⟩; have hs_wa := hb_wa.size; (try simp at hs_wa)) | (go_at_call 14; (with_reducible refine ((c2 _ _ _ ?_ ?_).out).mono ?_); (focus ((exact (HX.out.2.1.read.below HT.out.2.1).below hb_wa); done)); (focus ((exact oa.ints); done)); rintro e wb ⟨⟨qb, cb, rfl⟩, hb_wb⟩; have hs_wb := hb_wb.size; (try simp at hs_wb)))
          have HB := HW.out.trans ((hb_wa.trans (hb_wb.mono hs_wa)).mono hsw)
          clear oa hb_wa hb_wb c1 c2
          go_loopw [22] (fun i wr => i = .int .i64 0 ∧ wb = wr) (fun _ _ => 0)
          case atStart => exact ⟨rfl, rfl⟩
          case round =>
            obtain ⟨rfl, rfl⟩ := hrel
            go_wp2_with fail
            exact bodyPost_ret (v := .bool true) (by simp [results, Try.results4, go_sem]) rfl ⟨rfl, HB⟩
  · have c1 := fun w h hq => Lib.hid (iMatSolve_no k m c d (some ⟨g, 0, none⟩) q L xs w h hq HD.out.1 HD.out.2.1 (by omega) (by omega) hok)
    have c2 := fun w h hq => Lib.hid (sMatSolve_no k m c d (some ⟨g, 0, none⟩) q L xs w h hq HD.out.1 HD.out.2.1 (by omega) (by omega) hok)
    clear hok
    go_wp2_with (first | (go_at_call 14; (with_reducible refine ((c1 _ ?_ ?_).out).mono ?_); (focus ((exact HG.out.read); done)); (focus ((exact hI.out); done)); rintro e wi ⟨⟨qi, di, rfl⟩, hb_wi⟩; have hs_wi := hb_wi.size; (try simp at hs_wi)) | (go_at_call 15; (with_reducible refine ((c2 _ ?_ ?_).out).mono ?_); (focus ((exact HG.out.read.below hb_wi); done)); (focus ((exact hI.out.below hb_wi); done)); rintro e ws ⟨⟨gs, rfl⟩, hb_ws⟩; have hs_ws := hb_ws.size; (try simp at hs_ws)) | (go_at_call 16; (with_reducible refine (sameI_nil _ _ _ _ _).mono ?_); rintro e wt ⟨rfl, hb_wt⟩; have hs_wt := hb_wt.size; (try simp at hs_wt)))
    exact bodyPost_ret (v := .bool true) (by simp [results, Try.results4, go_sem]) rfl ⟨rfl, (by repeat (first | assumption | exact Below.refl _ _ | (refine below_chain ?_ (by assumption) (by first | omega | (simp <;> omega) | simp)) | (refine Below.alloc ?_ (by first | omega | (simp <;> omega) | simp) _) | (apply below_drewN) | (apply below_drew) | (refine Below.setCell ?_ (by first | omega | (simp <;> omega) | simp) _)))⟩

set_option maxRecDepth 100000 in
theorem walk_long (len cap : Nat) (p : Option Addr) (len1 cap1 : Nat) (p1 : Option Addr) (w : World) (hl : 1048576 < len ∨ 1048576 < len1) :
    Calls Try.prog 4 #[.slice p len cap, .slice p1 len1 cap1] w fun e w' => e = .returned (.bool true) ∧ Below w.heap.size w w' := by
  by_cases h0 : (1048576 : Int) < (len : Int)
  · go_enter Try.func4, Try.ntmps4
    go_wp2
    go_ret
    exact ⟨rfl, Below.refl _ _⟩
  · have hl' : (1048576 : Int) < (len1 : Int) := by omega
    clear hl
    go_enter Try.func4, Try.ntmps4
    go_wp2
    go_ret
    exact ⟨rfl, Below.refl _ _⟩

set_option maxRecDepth 100000 in
theorem lifted (os : Os) (started : os.Started) (H : Type) (enc : TypeId × Value → H) :
    ReturnsInHanded {} Try.checked os 4 .any (Rows.fnSolveSpec.pre6 enc Try.prog Try.f4 Rows.fnSolveRow.domain false) (Rows.fnSolveSpec.post enc Try.prog Try.f4 false true false false) := by
  refine returnsInHanded_of_change (C := Try.checked) own started (by kernel_rfl) Try.func4
    (ChangeSpec.witness6 (enc := enc) (C := Try.checked) false ⟨#[], #[.slice none 0 0, .slice none 0 0], []⟩ 8 (by kernel_rfl) (by kernel_rfl) (by kernel_rfl) (by kernel_rfl)) ?_
  intro W base args ds gs before hval0 hW hcnd _
  have hval : ∀ (j : Nat) t v, Try.f4.params[j]? = some t → args[j]? = some v → Value.okWide Try.prog W .any base t v := hval0
  have hW' := hW
  obtain ⟨p, q, hA0, hV, rfl, hfz, hnd⟩ := hW
  have hA : DataW.TrodAll enc Try.prog W 0 (fun _ => true) true Try.f4.params.toList args.toList ds p := hA0
  rw [Try.params4] at hA hval
  obtain ⟨v0, vs0, d0, ds0, p0, q0, hargs, rfl, rfl, h0, r0⟩ := trodAll_cons hA
  obtain ⟨v1, vs1, d1, ds1, p1, q1, rfl, rfl, rfl, h1, r1⟩ := trodAll_cons r0
  obtain ⟨rfl, rfl, rfl⟩ := trodAll_nil r1
  obtain rfl : args = #[v0, v1] := by cases args; simp_all
  obtain ⟨rfl, rfl⟩ := trodVars_none hV
  obtain ⟨a0, len0, cap0, rfl⟩ := okWide_slice Try.underlying32 (hval 0 32 v0 rfl rfl)
  have k0 := h0
  have lt0 : ∀ x ∈ p0, x.block < W.heap.size := by obtain ⟨m, hm⟩ := k0; exact DataW.trod_lt m _ _ _ hm
  obtain ⟨z0, w0⟩ : ∃ zs, IsRow .u8 W a0 len0 cap0 zs := by
    obtain ⟨fuel, hf⟩ := h0
    rcases open_ints Try.underlying32 Try.underlying5 (by kernel_rfl) hf with ⟨hcs, _⟩ | ⟨x, l, c, zs, hcs, _, hl, hm, hz, _, hcell, hwz⟩
    · simp [Value.cells] at hcs
      obtain ⟨rfl, rfl, rfl⟩ := hcs
      exact ⟨[], .inl ⟨rfl, rfl, rfl, rfl⟩⟩
    · simp [Value.cells] at hcs
      obtain ⟨rfl, rfl, rfl⟩ := hcs
      exact ⟨zs, .inr ⟨_, rfl, hl, hm, by simpa using hz, hcell, hwz⟩⟩
  obtain ⟨a1, len1, cap1, rfl⟩ := okWide_slice Try.underlying32 (hval 1 32 v1 rfl rfl)
  have k1 := h1
  have lt1 : ∀ x ∈ p1, x.block < W.heap.size := by obtain ⟨m, hm⟩ := k1; exact DataW.trod_lt m _ _ _ hm
  obtain ⟨z1, w1⟩ : ∃ zs, IsRow .u8 W a1 len1 cap1 zs := by
    obtain ⟨fuel, hf⟩ := h1
    rcases open_ints Try.underlying32 Try.underlying5 (by kernel_rfl) hf with ⟨hcs, _⟩ | ⟨x, l, c, zs, hcs, _, hl, hm, hz, _, hcell, hwz⟩
    · simp [Value.cells] at hcs
      obtain ⟨rfl, rfl, rfl⟩ := hcs
      exact ⟨[], .inl ⟨rfl, rfl, rfl, rfl⟩⟩
    · simp [Value.cells] at hcs
      obtain ⟨rfl, rfl, rfl⟩ := hcs
      exact ⟨zs, .inr ⟨_, rfl, hl, hm, by simpa using hz, hcell, hwz⟩⟩
  clear hA0 hval0
  have hw : Calls Try.prog 4 #[.slice a0 len0 cap0, .slice a1 len1 cap1] W fun e w' => e = .returned (.bool true) ∧ Below W.heap.size W w' := by
    by_cases hl : len0 ≤ 1048576
    · by_cases hm : len1 ≤ 1048576
      · exact walk len0 cap0 a0 len1 cap1 a1 W hl hm (Lib.hid (code_of_row w0 hl)) (Lib.hid (code_of_row w1 hm))
      · exact walk_long len0 cap0 a0 len1 cap1 a1 W (by omega)
    · exact walk_long len0 cap0 a0 len1 cap1 a1 W (by omega)
  refine hw.mono fun e W' ⟨he, bel⟩ => ?_
  subst he
  exact ⟨_, rfl, _, _, _, [], _, [], hW', trodAll_mk1 (shut_bool Try.underlying4 _), (trodAll_cons_mk (Below.trod laidOut (by kernel_rfl) (of_decide_eq_true (by kernel_rfl)) k0 bel lt0) (trodAll_cons_mk (Below.trod laidOut (by kernel_rfl) (of_decide_eq_true (by kernel_rfl)) k1 bel lt1) trodAll_mk0)), rfl, bel.frame _, fun h => by cases h⟩

theorem over : Rows.fnSolveRow.holds Try.pinned (OpenSpec.ofChange Rows.fnSolveSpec) :=
  OpenClaim.holds_of_wide 4 Try.f4 rfl rfl rfl rfl rfl rfl rfl ⟨rfl, rfl, rfl, rfl, rfl⟩ rfl rfl rfl rfl rfl (by kernel_rfl) Try.func4 (by kernel_rfl)
    (of_decide_eq_true (by kernel_rfl)) (by unfold Func.isWrapper; first | (rw [if_pos (by decide +kernel)]; kernel_rfl) | (rw [if_neg (by decide +kernel)]; exact ⟨rfl, rfl⟩))
    (fun os started H enc _ => lifted os started H enc)

theorem proved : Rows.FnSolveSaid := over
end Go.Proofs.Ytddmbjobibljaaa.fnSolve

