/-
  For every code the law FnDetTurn returns true: impl.MatDet answers as the reference model does; of the matrix turned it says the same, of a matrix with two rows exchanged it says the negative, and of one with two equal rows 0. No condition: every list of bytes is taken.
-/
import Derived.Test.YthpfhbogpnhgmaaMi
import Derived.Test.YthpfhbogpnhgmaaDMc
import Derived.Test.YthpfhbogpnhgmaaNk5
import Derived.Test.YthpfhbogpnhgmaaNk6
import Derived.Test.YthpfhbogpnhgmaaDv
namespace Go.Proofs.Ythpfhbogpnhgmaa.fnDetTurn
open Go.ChangeShapes Go.WideShapes Go.ChangeAt Go.RowKit
set_option linter.unusedVariables false

set_option maxHeartbeats 8000000 in
set_option maxRecDepth 100000 in
theorem walk (len cap : Nat) (p : Option Addr) (w : World) (hl : len ≤ 1048576) (h : Hid (Code' w (.slice p len cap))) :
    Calls Try.prog 3 #[.slice p len cap] w fun e w' => e = .returned (.bool true) ∧ Below w.heap.size w w' := by
  have hl' : ¬ (1048576 : Int) < (len : Int) := by omega
  go_enter Try.func3, Try.ntmps3
  go_upto_region 4 with (go_at_call 14; (with_reducible refine (drawMatDet_is _ _ h).mono ?_); rintro e wd ⟨L, bs, g, k, c, rfl, hd, hg, hb_wd⟩; have hs_wd := hb_wd.size; have HG := Lib.hid hg; have HD := Lib.hid hd; have hgl := hg.lt; clear hg hd)
  clear h
  have hk4 : k ≤ 4 := HD.out.2.1
  obtain ⟨b, hb⟩ : ∃ b, matOk L = b := ⟨_, rfl⟩
  cases b
  · have c1 := fun w h => Lib.hid (iMatDet_no k c (some ⟨g, 0, none⟩) L w h HD.out.1 (by omega) hb)
    have c2 := fun w h => Lib.hid (sMatDet_no k c (some ⟨g, 0, none⟩) L w h HD.out.1 (by omega) hb)
    clear hb
    go_wp2_with (first | (go_at_call 15; (with_reducible refine ((c1 _ ?_).out).mono ?_); (focus ((exact HG.out.read); done)); rintro e wi ⟨rfl, hb_wi⟩; have hs_wi := hb_wi.size; (try simp at hs_wi)) | (go_at_call 16; (with_reducible refine ((c2 _ ?_).out).mono ?_); (focus ((exact HG.out.read.below hb_wi); done)); rintro e ws ⟨rfl, hb_ws⟩; have hs_ws := hb_ws.size; (try simp at hs_ws)))
    exact bodyPost_ret (v := .bool true) (by simp [results, Try.results3, go_sem]) rfl ⟨rfl, (by repeat (first | assumption | exact Below.refl _ _ | (refine below_chain ?_ (by assumption) (by first | omega | (simp <;> omega) | simp)) | (refine Below.alloc ?_ (by first | omega | (simp <;> omega) | simp) _) | (apply below_drewN) | (apply below_drew) | (refine Below.setCell ?_ (by first | omega | (simp <;> omega) | simp) _)))⟩
  · have hb0 := Lib.hid hb
    obtain ⟨D, hD⟩ : ∃ D, det k (ent L) = D := ⟨_, rfl⟩
    have c1 := fun w h => Lib.hid (iMatDet_yes k c (some ⟨g, 0, none⟩) L w h HD.out.1 hb)
    have c2 := fun w h => Lib.hid (sMatDet_yes k c (some ⟨g, 0, none⟩) L w h HD.out.1 hb)
    have c3 := fun w h => Lib.hid (iMatTurn_yes k c (some ⟨g, 0, none⟩) L w h HD.out.1 hb)
    rw [hD] at c1 c2
    have hs := matOk.small hb
    rw [HD.out.1] at hs
    have hDb := det_small hk4 hs
    rw [hD] at hDb
    obtain ⟨M, hM⟩ : ∃ M, mkL k (trn (ent L)) = M := ⟨_, rfl⟩
    have hk1 : 1 ≤ k := by have := (matOk_true.1 hb).1; have := HD.out.1; omega
    have hMok : matOk M = true := by rw [← hM]; exact (mkL_ok hk1 (by omega)).2 (fun i j hi hj => hs j i hj hi)
    have hMl : M.length = k := by rw [← hM]; exact mkL_len
    have hMD : det k (ent M) = D := by rw [← hM, det_mkL, det_trn]; exact hD
    have c4 := fun (k' : Nat) p w h => Lib.hid (iMatDet_yes k k' p M w h hMl hMok)
    rw [hM] at c3
    rw [hMD] at c4
    have hD0 := Lib.hid hD
    clear hb hD hM hMok hMl hMD hs
    go_upto_region 10 with (first | (go_at_call 16; (with_reducible refine ((c2 _ ?_).out).mono ?_); (focus ((exact HG.out.read.below hb_wi); done)); rintro e ws ⟨rfl, hb_ws⟩; have hs_ws := hb_ws.size; (try simp at hs_ws)) | (go_at_call 17; (with_reducible refine ((c3 _ ?_).out).mono ?_); (focus ((exact HG.out.read.below (by repeat (first | assumption | exact Below.refl _ _ | (refine below_chain ?_ (by assumption) (by first | omega | (simp <;> omega) | simp)) | (refine Below.alloc ?_ (by first | omega | (simp <;> omega) | simp) _) | (apply below_drewN) | (apply below_drew) | (refine Below.setCell ?_ (by first | omega | (simp <;> omega) | simp) _)))); done)); rintro e wt ⟨gt, ct, bt, rfl, ot, hb_wt⟩; have hs_wt := hb_wt.size; (try simp at hs_wt)) | (go_at_call 15; (with_reducible refine ((c1 _ ?_).out).mono ?_); (focus ((exact HG.out.read); done)); rintro e wi ⟨rfl, hb_wi⟩; have hs_wi := hb_wi.size; (try simp at hs_wi)) | (go_at_call 15; (with_reducible refine ((c4 _ _ _ ?_).out).mono ?_); (focus ((exact ot.read); done)); rintro e wj ⟨rfl, hb_wj⟩; have hs_wj := hb_wj.size; (try simp at hs_wj)))
    have hBj : Below wd.heap.size wd wj := (by repeat (first | assumption | exact Below.refl _ _ | (refine below_chain ?_ (by assumption) (by first | omega | (simp <;> omega) | simp)) | (refine Below.alloc ?_ (by first | omega | (simp <;> omega) | simp) _) | (apply below_drewN) | (apply below_drew) | (refine Below.setCell ?_ (by first | omega | (simp <;> omega) | simp) _)))
    have hBw : Below w.heap.size w wj := (by repeat (first | assumption | exact Below.refl _ _ | (refine below_chain ?_ (by assumption) (by first | omega | (simp <;> omega) | simp)) | (refine Below.alloc ?_ (by first | omega | (simp <;> omega) | simp) _) | (apply below_drewN) | (apply below_drew) | (refine Below.setCell ?_ (by first | omega | (simp <;> omega) | simp) _)))
    have hsj := hBj.size
    have hsw := hBw.size
    have HGj := Lib.hid (HG.out.below hBj)
    have hglj := HGj.out.lt
    clear hb_wd hb_wi hb_ws hb_wt hb_wj hBj HG ot c2 c3 c1 c4
    by_cases hk2 : (k : Int) < 2
    · obtain ⟨b0, c0, r0, hb0', hr0, e0, ho0, hlb, hbg⟩ := HGj.out.at (i := 0) (by rw [HD.out.1]; omega)
      obtain rfl : k = 1 := by omega
      have hrl : r0.length = 1 := by have := ((matOk_true.1 hb0.out).2.2 r0 (List.mem_of_getElem? hr0)).1; rw [this, HD.out.1]
      have hx : D = num r0 0 := by rw [← hD0.out, det_1]; unfold ent; rw [rowL_at hr0]
      have e1 := ho0.cells (at_num (l := r0) (i := 0) (by omega))
      rw [← hx] at e1
      rw [hrl] at e0
      clear ho0 hr0 hb0'
      go_wp2_with fail
      exact bodyPost_ret (v := .bool true) (by simp [results, Try.results3, go_sem]) rfl ⟨rfl, hBw⟩
    · have hkn : 1 < k := by omega
      have hLk : Hid (L.length = k ∧ ∀ r ∈ L, r.length ≤ 8) := Lib.hid ⟨HD.out.1, fun r hr => by have := HD.out.2.2 r hr; omega⟩
      go_upto_region 13 with (go_at_call 18; (with_reducible refine (copyG k w.heap.size g c bs L _ ?_ hLk.out.1 (by omega) hLk.out.2).mono ?_); (focus (exact HGj.out; done)); rintro e wz ⟨bz, gz, cz, rfl, hz, hb_wz⟩; have hs_wz := hb_wz.size; have HZ := Lib.hid hz; clear hz)
      have hgzl := HZ.out.low
      have HT : Hid (TwoM w wz 3 29 w.heap.size wj.heap.size g c bs L gz cz L) := Lib.hid ⟨⟨hglj, hgzl, hsw, HGj.out.z⟩, HGj.out.below hb_wz, ⟨_, GMix.of HZ.out⟩, hBw.trans (hb_wz.mono hsw)⟩
      obtain ⟨b0, c0, r0, hb0', hr0, -⟩ := HGj.out.at (i := 0) (by rw [HD.out.1]; omega)
      obtain ⟨b1, c1, r1, hb1', hr1, -⟩ := HGj.out.at (i := 1) (by rw [HD.out.1]; omega)
      have hrl0 : r0.length = k := by have := ((matOk_true.1 hb0.out).2.2 r0 (List.mem_of_getElem? hr0)).1; rw [this, HD.out.1]
      have hrl1 : r1.length = k := by have := ((matOk_true.1 hb0.out).2.2 r1 (List.mem_of_getElem? hr1)).1; rw [this, HD.out.1]
      have HB := Lib.hid (And.intro (And.intro hb0' (And.intro hr0 hrl0)) (And.intro hb1' (And.intro hr1 hrl1)))
      clear hb0' hr0 hrl0 hb1' hr1 hrl1 HZ hb_wz HGj hBw
      have hX1 : Hid (L[0]? = some r0) := Lib.hid HB.out.1.2.1
      have hX2 : Hid ((L.set 0 r1)[1]? = some r1) := Lib.hid (by rw [List.getElem?_set, if_neg (by omega)]; exact HB.out.2.2.1)
      have hX3 : Hid (((L.set 0 r1).set 1 r0)[0]? = some r1) := Lib.hid (by rw [List.getElem?_set, if_neg (by omega), List.getElem?_set, if_pos rfl, if_pos (by rw [hLk.out.1]; omega)])
      have hm0 := List.mem_of_getElem? HB.out.1.2.1
      have hm1 := List.mem_of_getElem? HB.out.2.2.1
      have hok1 : matOk (L.set 0 r1) = true := matOk_set hb0.out hm1
      have hin1 : r0 ∈ L.set 0 r1 ∨ True := .inr trivial
      have hok2 : matOk ((L.set 0 r1).set 1 r0) = true := matOk_set' hok1 (by rw [List.length_set, hLk.out.1, HB.out.1.2.2]) (fun x hx => ((matOk_true.1 hb0.out).2.2 r0 hm0).2 x hx)
      have hok3 : matOk (((L.set 0 r1).set 1 r0).set 0 r0) = true := matOk_set' hok2 (by rw [List.length_set, List.length_set, hLk.out.1, HB.out.1.2.2]) (fun x hx => ((matOk_true.1 hb0.out).2.2 r0 hm0).2 x hx)
      have c5 := fun w h => Lib.hid (iMatDet_yes k cz (some ⟨gz, 0, none⟩) ((L.set 0 r1).set 1 r0) w h (by rw [List.length_set, List.length_set]; exact hLk.out.1) hok2)
      have c6 := fun w h => Lib.hid (iMatDet_yes k cz (some ⟨gz, 0, none⟩) (((L.set 0 r1).set 1 r0).set 0 r0) w h (by rw [List.length_set, List.length_set, List.length_set]; exact hLk.out.1) hok3)
      rw [det_swapL hLk.out.1 hkn HB.out.1.2.1 HB.out.2.2.1, hD0.out] at c5
      rw [det_sameL (by rw [List.length_set]; exact hLk.out.1) hkn] at c6
      have hD1 := hDb.1
      have hD2 := hDb.2
      clear hok1 hok2 hok3 hm0 hm1 hin1 hDb
      have e1 := HT.out.2.1.top.cells (rowVs_at HB.out.2.1 HB.out.2.2.1)
      rw [HB.out.2.2.2] at e1
      obtain ⟨f1, ⟨bx1, dx1, ex1⟩, lz1⟩ := HT.out.at (i := 0) (hX1.out : (L)[0]? = some _)
      have lg1 := HT.out.2.1.lt
      go_upto_region 14 with fail
      refine gen_worldM (fun W => TwoM w W 3 29 w.heap.size wj.heap.size g c bs L gz cz ((L).set 0 r1)) (HT.out.put (i := 0) (j := 1) (by (try simp only [List.length_set]); rw [hLk.out.1]; omega) HB.out.2.1 HB.out.2.2.1 HB.out.2.2.2) (fun W1 hW => ?_)
      have HT1 := Lib.hid hW
      clear hW e1 f1 ex1 lz1 lg1
      have e2 := HT1.out.2.1.top.cells (rowVs_at HB.out.1.1 HB.out.1.2.1)
      rw [HB.out.1.2.2] at e2
      obtain ⟨f2, ⟨bx2, dx2, ex2⟩, lz2⟩ := HT1.out.at (i := 1) (hX2.out : (L.set 0 r1)[1]? = some _)
      have lg2 := HT1.out.2.1.lt
      go_upto_region 15 with fail
      refine gen_worldM (fun W => TwoM w W 3 29 w.heap.size wj.heap.size g c bs L gz cz ((L.set 0 r1).set 1 r0)) (HT1.out.put (i := 1) (j := 0) (by (try simp only [List.length_set]); rw [hLk.out.1]; omega) HB.out.1.1 HB.out.1.2.1 HB.out.1.2.2) (fun W2 hW => ?_)
      have HT2 := Lib.hid hW
      clear hW e2 f2 ex2 lz2 lg2
      go_upto_region 16 with ((go_at_call 15; (with_reducible refine ((c5 _ ?_).out).mono ?_); (focus ((exact HT2.out.read); done)); rintro e wu ⟨rfl, hb_wu⟩; have hs_wu := hb_wu.size; (try simp at hs_wu)))
      have HT3 := Lib.hid (HT2.out.below hb_wu)
      clear HT2 hb_wu
      have e3 := HT3.out.2.1.top.cells (rowVs_at HB.out.1.1 HB.out.1.2.1)
      rw [HB.out.1.2.2] at e3
      obtain ⟨f3, ⟨bx3, dx3, ex3⟩, lz3⟩ := HT3.out.at (i := 0) (hX3.out : ((L.set 0 r1).set 1 r0)[0]? = some _)
      have lg3 := HT3.out.2.1.lt
      go_upto_region 17 with fail
      refine gen_worldM (fun W => TwoM w W 3 29 w.heap.size wj.heap.size g c bs L gz cz (((L.set 0 r1).set 1 r0).set 0 r0)) (HT3.out.put (i := 0) (j := 0) (by (try simp only [List.length_set]); rw [hLk.out.1]; omega) HB.out.1.1 HB.out.1.2.1 HB.out.1.2.2) (fun W3 hW => ?_)
      have HT4 := Lib.hid hW
      clear hW e3 f3 ex3 lz3 lg3
      go_wp2_with ((go_at_call 15; (with_reducible refine ((c6 _ ?_).out).mono ?_); (focus ((exact HT4.out.read); done)); rintro e wv ⟨rfl, hb_wv⟩; have hs_wv := hb_wv.size; (try simp at hs_wv)))
      have HT5 := HT4.out.below hb_wv
      exact bodyPost_ret (v := .bool true) (by simp [results, Try.results3, go_sem]) rfl ⟨rfl, HT5.2.2.2⟩

set_option maxRecDepth 100000 in
theorem walk_long (len cap : Nat) (p : Option Addr) (w : World) (hl : 1048576 < len) :
    Calls Try.prog 3 #[.slice p len cap] w fun e w' => e = .returned (.bool true) ∧ Below w.heap.size w w' := by
  have hl' : (1048576 : Int) < (len : Int) := by omega
  go_enter Try.func3, Try.ntmps3
  go_wp2
  go_ret
  exact ⟨rfl, Below.refl _ _⟩

set_option maxRecDepth 100000 in
theorem lifted (os : Os) (started : os.Started) (H : Type) (enc : TypeId × Value → H) :
    ReturnsInHanded {} Try.checked os 3 .any (Rows.fnDetTurnSpec.pre6 enc Try.prog Try.f3 Rows.fnDetTurnRow.domain false) (Rows.fnDetTurnSpec.post enc Try.prog Try.f3 false true false false) := by
  refine returnsInHanded_of_change (C := Try.checked) own started (by kernel_rfl) Try.func3
    (ChangeSpec.witness6 (enc := enc) (C := Try.checked) false ⟨#[], #[.slice none 0 0], []⟩ 8 (by kernel_rfl) (by kernel_rfl) (by kernel_rfl) (by kernel_rfl)) ?_
  intro W base args ds gs before hval0 hW hcnd _
  have hval : ∀ (j : Nat) t v, Try.f3.params[j]? = some t → args[j]? = some v → Value.okWide Try.prog W .any base t v := hval0
  have hW' := hW
  obtain ⟨p, q, hA0, hV, rfl, hfz, hnd⟩ := hW
  have hA : DataW.TrodAll enc Try.prog W 0 (fun _ => true) true Try.f3.params.toList args.toList ds p := hA0
  rw [Try.params3] at hA hval
  obtain ⟨v0, vs0, d0, ds0, p0, q0, hargs, rfl, rfl, h0, r0⟩ := trodAll_cons hA
  obtain ⟨rfl, rfl, rfl⟩ := trodAll_nil r0
  obtain rfl : args = #[v0] := by cases args; simp_all
  obtain ⟨rfl, rfl⟩ := trodVars_none hV
  obtain ⟨a0, len0, cap0, rfl⟩ := okWide_slice Try.underlying22 (hval 0 22 v0 rfl rfl)
  have k0 := h0
  have lt0 : ∀ x ∈ p0, x.block < W.heap.size := by obtain ⟨m, hm⟩ := k0; exact DataW.trod_lt m _ _ _ hm
  obtain ⟨z0, w0⟩ : ∃ zs, IsRow .u8 W a0 len0 cap0 zs := by
    obtain ⟨fuel, hf⟩ := h0
    rcases open_ints Try.underlying22 Try.underlying5 (by kernel_rfl) hf with ⟨hcs, _⟩ | ⟨x, l, c, zs, hcs, _, hl, hm, hz, _, hcell, hwz⟩
    · simp [Value.cells] at hcs
      obtain ⟨rfl, rfl, rfl⟩ := hcs
      exact ⟨[], .inl ⟨rfl, rfl, rfl, rfl⟩⟩
    · simp [Value.cells] at hcs
      obtain ⟨rfl, rfl, rfl⟩ := hcs
      exact ⟨zs, .inr ⟨_, rfl, hl, hm, by simpa using hz, hcell, hwz⟩⟩
  clear hA0 hval0
  have hw : Calls Try.prog 3 #[.slice a0 len0 cap0] W fun e w' => e = .returned (.bool true) ∧ Below W.heap.size W w' := by
    by_cases hl : len0 ≤ 1048576
    · exact walk len0 cap0 a0 W hl (Lib.hid (code_of_row w0 hl))
    · exact walk_long len0 cap0 a0 W (by omega)
  refine hw.mono fun e W' ⟨he, bel⟩ => ?_
  subst he
  exact ⟨_, rfl, _, _, _, [], _, [], hW', trodAll_mk1 (shut_bool Try.underlying4 _), (trodAll_cons_mk (Below.trod laidOut (by kernel_rfl) (of_decide_eq_true (by kernel_rfl)) k0 bel lt0) trodAll_mk0), rfl, bel.frame _, fun h => by cases h⟩

theorem over : Rows.fnDetTurnRow.holds Try.pinned (OpenSpec.ofChange Rows.fnDetTurnSpec) :=
  OpenClaim.holds_of_wide 3 Try.f3 rfl rfl rfl rfl rfl rfl rfl ⟨rfl, rfl, rfl, rfl, rfl⟩ rfl rfl rfl rfl rfl (by kernel_rfl) Try.func3 (by kernel_rfl)
    (of_decide_eq_true (by kernel_rfl)) (by unfold Func.isWrapper; first | (rw [if_pos (by decide +kernel)]; kernel_rfl) | (rw [if_neg (by decide +kernel)]; exact ⟨rfl, rfl⟩))
    (fun os started H enc _ => lifted os started H enc)

theorem proved : Rows.FnDetTurnSaid := over
end Go.Proofs.Ythpfhbogpnhgmaa.fnDetTurn

