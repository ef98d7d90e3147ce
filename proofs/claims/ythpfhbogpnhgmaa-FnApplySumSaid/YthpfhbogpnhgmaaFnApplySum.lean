/-
  For every two codes the law FnApplySum returns true: impl.MatApply answers as the reference model does, and one more in an element of the list is a column of the matrix more in what it answers. No condition: every two lists of bytes are taken.
-/
import Derived.Test.YthpfhbogpnhgmaaMi
import Derived.Test.YthpfhbogpnhgmaaDMd
import Derived.Test.YthpfhbogpnhgmaaNk4
import Derived.Test.YthpfhbogpnhgmaaDv
namespace Go.Proofs.Ythpfhbogpnhgmaa.fnApplySum
open Go.ChangeShapes Go.WideShapes Go.ChangeAt Go.RowKit
set_option linter.unusedVariables false

/-- an element one greater -/
theorem apL_more {k i j : Nat} {L : List (List Int)} {xs : List Int} (hi : i < k) (hj : j < k) (hx : xs.length = k) : num (apL k L (xs.set j (num xs j + 1))) i = num (apL k L xs) i + ent L i j := by
  have e1 : ∀ zs : List Int, num (apL k L zs) i = smn k (fun t => ent L i t * num zs t) := fun zs => by
    unfold apL
    exact num_at (by rw [List.getElem?_map, List.getElem?_range hi]; rfl)
  have e2 : ∀ t, num (xs.set j (num xs j + 1)) t = num xs t + if t = j then 1 else 0 := fun t => by
    unfold num
    rw [List.getElem?_set]
    by_cases e : j = t
    · subst e; rw [if_pos rfl, if_pos (by omega), if_pos rfl]; rfl
    · rw [if_neg e, if_neg (Ne.symm e)]; simp
  rw [e1, e1]
  have e3 : ∀ n, smn n (fun t => ent L i t * num (xs.set j (num xs j + 1)) t) = smn n (fun t => ent L i t * num xs t) + if j < n then ent L i j else 0 := fun n => by
    induction n with
    | zero => simp [smn]
    | succ n ih =>
      rw [smn, smn, ih, e2, Int.mul_add]
      by_cases e : n = j
      · subst e; rw [if_neg (by omega), if_pos rfl, if_pos (by omega)]; omega
      · by_cases h' : j < n
        · rw [if_pos h', if_neg e, if_pos (by omega)]; omega
        · rw [if_neg h', if_neg e, if_neg (by omega)]; omega
  rw [e3, if_pos hj]
set_option maxHeartbeats 8000000 in
set_option maxRecDepth 100000 in
theorem walk (len cap : Nat) (p : Option Addr) (len2 cap2 : Nat) (p2 : Option Addr) (w : World) (hl : len ≤ 1048576) (hl2 : len2 ≤ 1048576) (h : Hid (Code' w (.slice p len cap))) (h2 : Hid (Code' w (.slice p2 len2 cap2))) :
    Calls Try.prog 6 #[.slice p len cap, .slice p2 len2 cap2] w fun e w' => e = .returned (.bool true) ∧ Below w.heap.size w w' := by
  have hl' : ¬ (1048576 : Int) < (len : Int) := by omega
  have hl2' : ¬ (1048576 : Int) < (len2 : Int) := by omega
  have hl2'' : len2 ≤ 1048576 := hl2
  clear h2
  go_enter Try.func6, Try.ntmps6
  go_upto_region 4 with (go_at_call 25; (with_reducible refine (drawMatApply_is _ _ h).mono ?_); rintro e wd ⟨L, bs, g, k, c, m, d, q, xs, rfl, hd, hx⟩; have HG := Lib.hid hd.2.1; have hb_wd := hd.2.2; have hk4 := hd.1.2.1; have hm4 := hx.2.1; have HD := Lib.hid (And.intro hd.1.1 (And.intro hx.1 hx)); have hs_wd := hb_wd.size; have hgl := hd.2.1.lt; clear hd hx)
  clear h
  have hI : Hid (Ints wd q xs) := Lib.hid HD.out.2.2.ints
  by_cases hok : aplOk L xs
  · have hmk : m = k := by rw [← HD.out.1, ← HD.out.2.1]; exact hok.2.1
    subst hmk
    have hk1 : 1 ≤ m := by have := (matOk_true.1 hok.1).1; have := HD.out.1; omega
    obtain ⟨A, hA⟩ : ∃ A, apL m L xs = A := ⟨_, rfl⟩
    have hAl : A.length = m := by rw [← hA]; simp [apL]
    have c1 := fun w h hq => Lib.hid (iMatApply_yes m c d (some ⟨g, 0, none⟩) q L xs w h hq HD.out.1 hok)
    have c2 := fun w h hq => Lib.hid (sMatApply_yes m c d (some ⟨g, 0, none⟩) q L xs w h hq HD.out.1 hok)
    rw [hA] at c1 c2
    have HO := Lib.hid (And.intro hok (And.intro hA hAl))
    clear hok hA hAl
    go_upto_region 8 with (first | (go_at_call 23; (with_reducible refine ((c1 _ ?_ ?_).out).mono ?_); (focus ((exact HG.out.read); done)); (focus ((exact hI.out); done)); rintro e wi ⟨gi, ci, rfl, hgi, oi, hb_wi⟩; have hs_wi := hb_wi.size; (try simp at hs_wi)) | (go_at_call 26; (with_reducible refine ((c2 _ ?_ ?_).out).mono ?_); (focus ((exact HG.out.read.below hb_wi); done)); (focus ((exact hI.out.below hb_wi); done)); rintro e ws ⟨gs, cs, rfl, hgs, os, hb_ws⟩; have hs_ws := hb_ws.size; (try simp at hs_ws)) | (go_at_call 24; (with_reducible refine (sameI_at HO.out.2.2 _ _ _ _ _ ?_ ?_ (by omega)).mono ?_); (focus ((exact oi.ints.below hb_ws); done)); (focus ((exact os.ints); done)); rintro e wt ⟨rfl, hb_wt⟩; have hs_wt := hb_wt.size; (try simp at hs_wt)))
    obtain ⟨J, hJ, hJm⟩ : ∃ J : Nat, (len2 : Int) % (m : Int) = (J : Int) ∧ J < m := ⟨len2 % m, by first | rfl | simp, Nat.mod_lt _ (by omega)⟩
    have hm0 : ¬ m = 0 := by omega
    obtain ⟨ad, rfl⟩ : ∃ ad, q = some ad := by
      rcases HD.out.2.2.2.2 with e | ⟨gx, n, cx, o, X, e, _⟩
      · have := HD.out.2.1; rw [e] at this; simp at this; omega
      · exact ⟨_, e⟩
    have hBt : Below wd.heap.size wd wt := (by repeat (first | assumption | exact Below.refl _ _ | (refine below_chain ?_ (by assumption) (by first | omega | (simp <;> omega) | simp)) | (refine Below.alloc ?_ (by first | omega | (simp <;> omega) | simp) _) | (apply below_drewN) | (apply below_drew) | (refine Below.setCell ?_ (by first | omega | (simp <;> omega) | simp) _)))
    have hBi : Below wi.heap.size wi wt := hb_ws.trans (hb_wt.mono hs_ws)
    have hBw : Below w.heap.size w wt := hb_wd.trans (hBt.mono hs_wd)
    have hst := hBt.size
    have hgil := oi.lt
    have hsi : wi.heap.size ≤ wt.heap.size := hBi.size
    have HX := Lib.hid (And.intro (hI.out.below hBt) (And.intro (HG.out.below hBt) (And.intro (oi.below hBi) hBw)))
    have HE := Lib.hid (Own.empty wt 3 1)
    clear hb_wd hb_wi hb_ws hb_wt hBt hBi hBw oi os HG hI c2
    go_upto_region 10 with (at_builtin; refine wp_append _ rfl _ _ 29 rfl 3 _ 1 8 Try.underlying29 info_int rfl (by decide) (by decide) wt.heap.size 0 0 [] rfl HE.out ad m d xs rfl (by rw [HD.out.2.1, Nat.mul_one]) (ints_cellsA (HX.out.1.alloc (.cells #[] 3))) (by omega) ?_; intro g1 d1 w1 hown hg1 hloc hsz1; have HN := Lib.hid (And.intro hown (And.intro hg1 hloc)); clear hown hg1 hloc)
    obtain ⟨hown, hg1, hloc⟩ := HN.out
    rw [Nat.zero_add, List.nil_append] at hown
    have hl1 : wt.heap.size ≤ g1 := by
      rcases hloc with e | e
      · omega
      · simp at e; omega
    have hxl := HD.out.2.1
    obtain ⟨v, hv⟩ : ∃ v, num xs J = v := ⟨_, rfl⟩
    have hvb := HO.out.1.2.2 (num xs J) (num_mem (by omega))
    rw [hv] at hvb
    obtain ⟨hv1, hv2⟩ := hvb
    have e0 := hown.cells (at_num (l := xs) (i := J) (by omega))
    rw [hv] at e0
    have f0 := hown.frozen J
    have lg := hown.lt
    have hJm' : (J : Int) < (m : Int) := by omega
    have hB1 := Lib.hid (below_gr ((Below.refl _ wt).alloc (Nat.le_refl _) (.cells #[] 3)) hg1 (Nat.le_refl _) (by simp))
    have HN2 := Lib.hid hown
    have hs1 := hB1.out.size
    clear hown hg1 hloc HN HE
    go_upto_region 11 with fail
    refine gen_worldM (fun W => Own W g1 3 1 m d1 (xs.set J (v + 1)) ∧ GridO W 3 29 w.heap.size g c bs L ∧ Own W gi 3 1 m ci A ∧ Below w.heap.size w W) ?_ (fun W hW => ?_)
    · have hB2 : Below wt.heap.size wt (w1.setCell ⟨g1, J, none⟩ (.int .i64 (v + 1))) := below_gr hB1.out (gb_oneM w1 g1 J _) hl1 hs1
      exact ⟨HN2.out.set J (v + 1) (by omega), HX.out.2.1.below hB2, HX.out.2.2.1.below hB2, HX.out.2.2.2.trans (hB2.mono (by have := HX.out.2.2.2.size; exact this))⟩
    obtain ⟨ys, hys⟩ : ∃ ys, xs.set J (v + 1) = ys := ⟨_, rfl⟩
    rw [hys] at hW
    have hyl : ys.length = m := by rw [← hys, List.length_set]; exact hxl
    have HW := Lib.hid hW
    have hzg := hW.2.1.lt
    have hzi := hW.2.2.1.lt
    have hzx := hW.1.lt
    have HYs := Lib.hid (And.intro hys (And.intro hyl hv))
    clear hW hys HX hB1 HN2 e0 f0 lg c1 hyl hv
    by_cases hok2 : aplOk L ys
    · obtain ⟨B, hB⟩ : ∃ B, apL m L ys = B := ⟨_, rfl⟩
      have c3 := fun w h hq => Lib.hid (iMatApply_yes m c d1 (some ⟨g, 0, none⟩) (some ⟨g1, 0, none⟩) L ys w h hq HD.out.1 hok2)
      rw [hB] at c3
      have HBs := Lib.hid hB
      clear hB hok2
      go_wp2_with ((go_at_call 23; (with_reducible refine ((c3 _ ?_ ?_).out).mono ?_); (focus ((exact HW.out.2.1.read); done)); (focus ((exact HW.out.1.ints); done)); rintro e wy ⟨gy, cy, rfl, hgy, oy, hb_wy⟩; have hs_wy := hb_wy.size; (try simp at hs_wy)))
      have hBl : Hid (B.length = m) := Lib.hid (by rw [← HBs.out]; simp [apL])
      have hBx : Hid (∀ j, j < m → num B j = num A j + ent L j J ∧ (-1000 ≤ ent L j J ∧ ent L j J ≤ 1000) ∧ -4000000000 ≤ num A j ∧ num A j ≤ 4000000000) := Lib.hid (fun j hj => by
        have hs := matOk.small HO.out.1.1
        rw [HD.out.1] at hs
        have h1 := apL_more (k := m) (L := L) (xs := xs) hj hJm HD.out.2.1
        rw [HYs.out.2.2, HYs.out.1, HBs.out, HO.out.2.1] at h1
        refine ⟨h1, hs j J hj hJm, ?_⟩
        have h2 : num A j = smn m (fun t => ent L j t * num xs t) := by
          rw [← HO.out.2.1]; unfold apL
          exact num_at (by rw [List.getElem?_map, List.getElem?_range hj]; rfl)
        have h3 := sm_abs (n := m) (f := fun t => ent L j t * num xs t) (c := 1000000000) (fun t ht => by
          have := aterm_low (e := 1000000) hs hj (by omega) HO.out.1.2.2 HD.out.2.1 t ht
          omega)
        rw [← h2] at h3
        omega)
      have HYo := Lib.hid (And.intro oy (And.intro (HW.out.2.2.1.below hb_wy) (HW.out.2.1.below hb_wy)))
      have hbw : Hid (Below w.heap.size w wy) := Lib.hid (HW.out.2.2.2.trans (hb_wy.mono HW.out.2.2.2.size))
      have hszw := hbw.out.size
      clear oy hb_wy c3 HW
      go_loopw [15] (fun i wr => ∃ j : Nat, j ≤ m ∧ i = .int .i64 j ∧ Below wy.heap.size wy wr) (fun i _ => m - (intOf i).toNat)
      case atStart => exact ⟨0, Nat.zero_le _, rfl, Below.refl _ _⟩
      case round =>
        obtain ⟨j, hj, rfl, hbr⟩ := hrel
        have hbs := hbr.size
        by_cases hlt : j < m
        · have hlt' : (j : Int) < (m : Int) := by omega
          obtain ⟨hq1, ⟨hq2, hq3⟩, hq4, hq5⟩ := hBx.out j hlt
          have eB := (HYo.out.1.below hbr).cells (at_num (l := B) (i := j) (by rw [hBl.out]; exact hlt))
          have eA := (HYo.out.2.1.below hbr).cells (at_num (l := A) (i := j) (by rw [HO.out.2.2]; exact hlt))
          obtain ⟨b, c', r, hb, hr, e0, ho, hlb, hbg⟩ := (HYo.out.2.2.below hbr).at (i := j) (by rw [HD.out.1]; exact hlt)
          have hrl : r.length = m := by have := ((matOk_true.1 HO.out.1.1).2.2 r (List.mem_of_getElem? hr)).1; rw [this, HD.out.1]
          have eR := ho.cells (at_num (l := r) (i := J) (by rw [hrl]; exact hJm))
          have hre : num r J = ent L j J := by unfold ent; rw [rowL_at hr]
          rw [hre] at eR
          rw [hrl] at e0
          rw [hq1] at eB
          obtain ⟨x, hx⟩ : ∃ x, num A j = x := ⟨_, rfl⟩
          obtain ⟨y, hy⟩ : ∃ y, ent L j J = y := ⟨_, rfl⟩
          rw [hx] at eA eB hq4 hq5
          rw [hy] at eB eR hq2 hq3
          have hlb' := ho.lt
          have hly := (HYo.out.1.below hbr).lt
          have hli := (HYo.out.2.1.below hbr).lt
          have hlg2 := (HYo.out.2.2.below hbr).lt
          have HBr := Lib.hid hbr
          clear ho hr hb hre hrl hbr hq1 hx hy
          go_wp2_with fail
          (refine wp_region_grows (by kernel_rfl) (by kernel_rfl) ?_; intro W_wg hWc_wg hWs_wg hWe_wg; (repeat (go_big_quiet_step (fail))); with_reducible refine wpQuiet_nil ?_; clear hWe_wg hWs_wg hWc_wg W_wg; intro wg hb_wg; obtain ⟨hc_wg, hf_wg⟩ := bcell hb_wg; (try simp only [World.size_drew, World.cell?_drew, World.frozen?_drew, World.heap_drewN, World.cell?_drewN, World.frozen?_drewN] at hc_wg hf_wg); have hs_wg := hb_wg.size; (try simp at hs_wg))
          go_wp2_with fail
          go_roundw
          case rel => exact ⟨j + 1, by omega, by go_num, HBr.out.trans (hb_wg.mono hbs)⟩
          case measure => simp [intOf]; omega
        · have e : j = m := by omega
          subst e
          go_wp2_with fail
          exact bodyPost_ret (v := .bool true) (by simp [results, Try.results6, go_sem]) rfl ⟨rfl, hbw.out.trans (hbr.mono hszw)⟩
    · have c3 := fun w h hq => Lib.hid (iMatApply_no m m c d1 (some ⟨g, 0, none⟩) (some ⟨g1, 0, none⟩) L ys w h hq HD.out.1 HYs.out.2.1 (by omega) (by omega) hok2)
      clear hok2
      go_wp2_with ((go_at_call 23; (with_reducible refine ((c3 _ ?_ ?_).out).mono ?_); (focus ((exact HW.out.2.1.read); done)); (focus ((exact HW.out.1.ints); done)); rintro e wy ⟨⟨qy, cy, rfl⟩, hb_wy⟩; have hs_wy := hb_wy.size; (try simp at hs_wy)))
      have hbw : Below w.heap.size w wy := HW.out.2.2.2.trans (hb_wy.mono HW.out.2.2.2.size)
      clear c3 HW
      go_loopw [15] (fun i wr => i = .int .i64 0 ∧ wy = wr) (fun _ _ => 0)
      case atStart => exact ⟨rfl, rfl⟩
      case round =>
        obtain ⟨rfl, rfl⟩ := hrel
        go_wp2_with fail
        exact bodyPost_ret (v := .bool true) (by simp [results, Try.results6, go_sem]) rfl ⟨rfl, hbw⟩
  · have hmk := Lib.hid hok
    have c1 := fun w h hq => Lib.hid (iMatApply_no k m c d (some ⟨g, 0, none⟩) q L xs w h hq HD.out.1 HD.out.2.1 (by omega) (by omega) hok)
    have c2 := fun w h hq => Lib.hid (sMatApply_no k m c d (some ⟨g, 0, none⟩) q L xs w h hq HD.out.1 HD.out.2.1 (by omega) (by omega) hok)
    clear hok
    go_wp2_with (first | (go_at_call 23; (with_reducible refine ((c1 _ ?_ ?_).out).mono ?_); (focus ((exact HG.out.read); done)); (focus ((exact hI.out); done)); rintro e wi ⟨⟨qi, di, rfl⟩, hb_wi⟩; have hs_wi := hb_wi.size; (try simp at hs_wi)) | (go_at_call 26; (with_reducible refine ((c2 _ ?_ ?_).out).mono ?_); (focus ((exact HG.out.read.below hb_wi); done)); (focus ((exact hI.out.below hb_wi); done)); rintro e ws ⟨⟨gs, rfl⟩, hb_ws⟩; have hs_ws := hb_ws.size; (try simp at hs_ws)) | (go_at_call 24; (with_reducible refine (sameI_nil _ _ _ _ _).mono ?_); rintro e wt ⟨rfl, hb_wt⟩; have hs_wt := hb_wt.size; (try simp at hs_wt)))
    exact bodyPost_ret (v := .bool true) (by simp [results, Try.results6, go_sem]) rfl ⟨rfl, (by repeat (first | assumption | exact Below.refl _ _ | (refine below_chain ?_ (by assumption) (by first | omega | (simp <;> omega) | simp)) | (refine Below.alloc ?_ (by first | omega | (simp <;> omega) | simp) _) | (apply below_drewN) | (apply below_drew) | (refine Below.setCell ?_ (by first | omega | (simp <;> omega) | simp) _)))⟩

set_option maxRecDepth 100000 in
theorem walk_long (len cap : Nat) (p : Option Addr) (len1 cap1 : Nat) (p1 : Option Addr) (w : World) (hl : 1048576 < len ∨ 1048576 < len1) :
    Calls Try.prog 6 #[.slice p len cap, .slice p1 len1 cap1] w fun e w' => e = .returned (.bool true) ∧ Below w.heap.size w w' := by
  by_cases h0 : (1048576 : Int) < (len : Int)
  · go_enter Try.func6, Try.ntmps6
    go_wp2
    go_ret
    exact ⟨rfl, Below.refl _ _⟩
  · have hl' : (1048576 : Int) < (len1 : Int) := by omega
    clear hl
    go_enter Try.func6, Try.ntmps6
    go_wp2
    go_ret
    exact ⟨rfl, Below.refl _ _⟩

set_option maxRecDepth 100000 in
theorem lifted (os : Os) (started : os.Started) (H : Type) (enc : TypeId × Value → H) :
    ReturnsInHanded {} Try.checked os 6 .any (Rows.fnApplySumSpec.pre6 enc Try.prog Try.f6 Rows.fnApplySumRow.domain false) (Rows.fnApplySumSpec.post enc Try.prog Try.f6 false true false false) := by
  refine returnsInHanded_of_change (C := Try.checked) own started (by kernel_rfl) Try.func6
    (ChangeSpec.witness6 (enc := enc) (C := Try.checked) false ⟨#[], #[.slice none 0 0, .slice none 0 0], []⟩ 8 (by kernel_rfl) (by kernel_rfl) (by kernel_rfl) (by kernel_rfl)) ?_
  intro W base args ds gs before hval0 hW hcnd _
  have hval : ∀ (j : Nat) t v, Try.f6.params[j]? = some t → args[j]? = some v → Value.okWide Try.prog W .any base t v := hval0
  have hW' := hW
  obtain ⟨p, q, hA0, hV, rfl, hfz, hnd⟩ := hW
  have hA : DataW.TrodAll enc Try.prog W 0 (fun _ => true) true Try.f6.params.toList args.toList ds p := hA0
  rw [Try.params6] at hA hval
  obtain ⟨v0, vs0, d0, ds0, p0, q0, hargs, rfl, rfl, h0, r0⟩ := trodAll_cons hA
  obtain ⟨v1, vs1, d1, ds1, p1, q1, rfl, rfl, rfl, h1, r1⟩ := trodAll_cons r0
  obtain ⟨rfl, rfl, rfl⟩ := trodAll_nil r1
  obtain rfl : args = #[v0, v1] := by cases args; simp_all
  obtain ⟨rfl, rfl⟩ := trodVars_none hV
  obtain ⟨a0, len0, cap0, rfl⟩ := okWide_slice Try.underlying22 (hval 0 22 v0 rfl rfl)
  have k0 := h0
  have lt0 : ∀ x ∈ p0, x.block < W.heap.size := by obtain ⟨m, hm⟩ := k0; exact DataW.trod_lt m _ _ _ hm
  obtain ⟨z0, w0⟩ : ∃ zs, IsRow .u8 W a0 len0 cap0 zs := by
    obtain ⟨fuel, hf⟩ := h0
    rcases open_ints Try.underlying22 Try.underlying5 (by kernel_rfl) hf with ⟨hcs, _⟩ | ⟨x, l, c, zs, hcs, _, hl, hm, hz, _, hcell, hwz⟩
    · simp [Value.cells] at hcs
      obtain ⟨rfl, rfl, rfl⟩ := hcs
      exact ⟨[], .inl ⟨rfl, rfl, rfl, rfl⟩⟩
    · simp [Value.cells] at hcs
      obtain ⟨rfl, rfl, rfl⟩ := hcs
      exact ⟨zs, .inr ⟨_, rfl, hl, hm, by simpa using hz, hcell, hwz⟩⟩
  obtain ⟨a1, len1, cap1, rfl⟩ := okWide_slice Try.underlying22 (hval 1 22 v1 rfl rfl)
  have k1 := h1
  have lt1 : ∀ x ∈ p1, x.block < W.heap.size := by obtain ⟨m, hm⟩ := k1; exact DataW.trod_lt m _ _ _ hm
  obtain ⟨z1, w1⟩ : ∃ zs, IsRow .u8 W a1 len1 cap1 zs := by
    obtain ⟨fuel, hf⟩ := h1
    rcases open_ints Try.underlying22 Try.underlying5 (by kernel_rfl) hf with ⟨hcs, _⟩ | ⟨x, l, c, zs, hcs, _, hl, hm, hz, _, hcell, hwz⟩
    · simp [Value.cells] at hcs
      obtain ⟨rfl, rfl, rfl⟩ := hcs
      exact ⟨[], .inl ⟨rfl, rfl, rfl, rfl⟩⟩
    · simp [Value.cells] at hcs
      obtain ⟨rfl, rfl, rfl⟩ := hcs
      exact ⟨zs, .inr ⟨_, rfl, hl, hm, by simpa using hz, hcell, hwz⟩⟩
  clear hA0 hval0
  have hw : Calls Try.prog 6 #[.slice a0 len0 cap0, .slice a1 len1 cap1] W fun e w' => e = .returned (.bool true) ∧ Below W.heap.size W w' := by
    by_cases hl : len0 ≤ 1048576
    · by_cases hm : len1 ≤ 1048576
      · exact walk len0 cap0 a0 len1 cap1 a1 W hl hm (Lib.hid (code_of_row w0 hl)) (Lib.hid (code_of_row w1 hm))
      · exact walk_long len0 cap0 a0 len1 cap1 a1 W (by omega)
    · exact walk_long len0 cap0 a0 len1 cap1 a1 W (by omega)
  refine hw.mono fun e W' ⟨he, bel⟩ => ?_
  subst he
  exact ⟨_, rfl, _, _, _, [], _, [], hW', trodAll_mk1 (shut_bool Try.underlying4 _), (trodAll_cons_mk (Below.trod laidOut (by kernel_rfl) (of_decide_eq_true (by kernel_rfl)) k0 bel lt0) (trodAll_cons_mk (Below.trod laidOut (by kernel_rfl) (of_decide_eq_true (by kernel_rfl)) k1 bel lt1) trodAll_mk0)), rfl, bel.frame _, fun h => by cases h⟩

theorem over : Rows.fnApplySumRow.holds Try.pinned (OpenSpec.ofChange Rows.fnApplySumSpec) :=
  OpenClaim.holds_of_wide 6 Try.f6 rfl rfl rfl rfl rfl rfl rfl ⟨rfl, rfl, rfl, rfl, rfl⟩ rfl rfl rfl rfl rfl (by kernel_rfl) Try.func6 (by kernel_rfl)
    (of_decide_eq_true (by kernel_rfl)) (by unfold Func.isWrapper; first | (rw [if_pos (by decide +kernel)]; kernel_rfl) | (rw [if_neg (by decide +kernel)]; exact ⟨rfl, rfl⟩))
    (fun os started H enc _ => lifted os started H enc)

theorem proved : Rows.FnApplySumSaid := over
end Go.Proofs.Ythpfhbogpnhgmaa.fnApplySum

