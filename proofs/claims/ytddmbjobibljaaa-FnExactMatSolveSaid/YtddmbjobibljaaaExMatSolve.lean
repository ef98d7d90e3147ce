/-
  For every list of lists of numbers and every list of numbers the law FnExactMatSolve returns true: impl.MatSolve answers as the reference model does, leaves its arguments as they were, and its list is memory of its own. No condition: every two lists are taken.
-/
import Derived.Test.YtddmbjobibljaaaZc
import Derived.Test.YtddmbjobibljaaaZe
import Derived.Test.YtddmbjobibljaaaGOpen
namespace Go.Proofs.Ytddmbjobibljaaa.fnExactMatSolve
open Go.ChangeShapes Go.WideShapes Go.ChangeAt Go.RowKit
set_option linter.unusedVariables false

set_option maxHeartbeats 8000000 in
set_option maxRecDepth 100000 in
theorem walk_no (w : World) (p : Option Addr) (c : Nat) (L : List (List Int)) (h : GRead w p L) (hl : L.length ≤ 9223372036854775807 ∧ ∀ r ∈ L, r.length ≤ 9223372036854775807) (q : Option Addr) (d : Nat) (xs : List Int) (hh : Ints w q xs) (hlh : xs.length ≤ 9223372036854775807) (hok : ¬ slvOk L xs) :
    Calls Try.prog 5 #[.slice p L.length c, .slice q xs.length d] w fun e w' => e = .returned (.bool true) ∧ Below w.heap.size w w' := by
  have H := Lib.hid (And.intro h hh)
  have HL := Lib.hid hl
  have ho0 := Lib.hid hok
  clear h hl hh hok
  by_cases hx1 : xs.length ≤ 1048576
  · have hx2 : ¬ (1048576 : Int) < (xs.length : Int) := by omega
    have hx3 : xs.length ≤ 4000000000000000000 := by omega
    go_enter Try.func5, Try.ntmps5
    go_upto_region 5 with (go_at_call 18; (with_reducible refine (szG c p L 1048576 _ H.out.1 HL.out.1 HL.out.2 (by omega) (by omega)).mono ?_); rintro e w' ⟨u, rfl, rfl, hu1, hu2⟩)
    by_cases hu : u < 0
    · clear hu2
      go_wp2_with fail
      go_ret
      exact ⟨rfl, Below.refl _ _⟩
    · obtain ⟨hk, hr⟩ := hu2 (by omega)
      have hr0 := Lib.hid hr
      have hk3 : L.length ≤ 4000000000000000000 := by omega
      have hgs : gsum L ≤ 1099511627776 := by have := gsum_small hk hr L.length; rwa [List.take_length] at this
      clear hr hu2
      go_wp2_with ((go_at_call 19; (with_reducible refine (toG _ c p L _ ?_ rfl hk hr0.out).mono ?_); (focus ((exact H.out.1); done)); rintro e wa ⟨ba, rfl, oa, hb_wa⟩; have hs_wa := hb_wa.size; (try simp at hs_wa)))
      have OA := Lib.hid oa
      clear oa
      go_wp2_with ((go_at_call 9; (with_reducible refine (toInts q d xs _ ?_ hx1).mono ?_); (focus ((exact H.out.2.below (by repeat (first | assumption | exact Below.refl _ _ | (refine below_chain ?_ (by assumption) (by first | omega | (simp <;> omega) | simp)) | (refine Below.alloc ?_ (by first | omega | (simp <;> omega) | simp) _) | (apply below_drewN) | (apply below_drew) | (refine Below.setCell ?_ (by first | omega | (simp <;> omega) | simp) _)))); done)); rintro e wx ⟨rfl, ox, hb_wx⟩; have hs_wx := hb_wx.size; (try simp at hs_wx)))
      have OX := Lib.hid ox
      clear ox
      go_wp2_with ((go_at_call 15; (with_reducible refine (sMatSolve_no _ _ _ _ _ _ L xs _ ?_ ?_ rfl rfl hk3 hx3 ho0.out).mono ?_); (focus ((exact OA.out.read.below (by repeat (first | assumption | exact Below.refl _ _ | (refine below_chain ?_ (by assumption) (by first | omega | (simp <;> omega) | simp)) | (refine Below.alloc ?_ (by first | omega | (simp <;> omega) | simp) _) | (apply below_drewN) | (apply below_drew) | (refine Below.setCell ?_ (by first | omega | (simp <;> omega) | simp) _)))); done)); (focus ((exact OX.out.ints); done)); rintro e ws ⟨⟨gs, rfl⟩, hb_ws⟩; have hs_ws := hb_ws.size; (try simp at hs_ws)))
      go_wp2_with ((go_at_call 19; (with_reducible refine (toG _ c p L _ ?_ rfl hk hr0.out).mono ?_); (focus ((exact H.out.1.below (by repeat (first | assumption | exact Below.refl _ _ | (refine below_chain ?_ (by assumption) (by first | omega | (simp <;> omega) | simp)) | (refine Below.alloc ?_ (by first | omega | (simp <;> omega) | simp) _) | (apply below_drewN) | (apply below_drew) | (refine Below.setCell ?_ (by first | omega | (simp <;> omega) | simp) _)))); done)); rintro e wb ⟨bb, rfl, ob, hb_wb⟩; have hs_wb := hb_wb.size; (try simp at hs_wb)))
      have OB := Lib.hid ob
      clear ob
      go_wp2_with ((go_at_call 9; (with_reducible refine (toInts q d xs _ ?_ hx1).mono ?_); (focus ((exact H.out.2.below (by repeat (first | assumption | exact Below.refl _ _ | (refine below_chain ?_ (by assumption) (by first | omega | (simp <;> omega) | simp)) | (refine Below.alloc ?_ (by first | omega | (simp <;> omega) | simp) _) | (apply below_drewN) | (apply below_drew) | (refine Below.setCell ?_ (by first | omega | (simp <;> omega) | simp) _)))); done)); rintro e wy ⟨rfl, oy, hb_wy⟩; have hs_wy := hb_wy.size; (try simp at hs_wy)))
      have OY := Lib.hid oy
      clear oy
      go_wp2_with ((go_at_call 14; (with_reducible refine (iMatSolve_no _ _ _ _ _ _ L xs _ ?_ ?_ rfl rfl hk3 hx3 ho0.out).mono ?_); (focus ((exact OB.out.read.below (by repeat (first | assumption | exact Below.refl _ _ | (refine below_chain ?_ (by assumption) (by first | omega | (simp <;> omega) | simp)) | (refine Below.alloc ?_ (by first | omega | (simp <;> omega) | simp) _) | (apply below_drewN) | (apply below_drew) | (refine Below.setCell ?_ (by first | omega | (simp <;> omega) | simp) _)))); done)); (focus ((exact OY.out.ints); done)); rintro e wi ⟨⟨qi, di, rfl⟩, hb_wi⟩; have hs_wi := hb_wi.size; (try simp at hs_wi)))
      go_wp2_with ((go_at_call 12; (with_reducible refine (eqI_nil _ _ _ _ _).mono ?_); rintro e we ⟨rfl, hb_we⟩; have hs_we := hb_we.size; (try simp at hs_we)))
      go_wp2_with ((go_at_call 19; (with_reducible refine (toG _ c p L _ ?_ rfl hk hr0.out).mono ?_); (focus ((exact H.out.1.below (by repeat (first | assumption | exact Below.refl _ _ | (refine below_chain ?_ (by assumption) (by first | omega | (simp <;> omega) | simp)) | (refine Below.alloc ?_ (by first | omega | (simp <;> omega) | simp) _) | (apply below_drewN) | (apply below_drew) | (refine Below.setCell ?_ (by first | omega | (simp <;> omega) | simp) _)))); done)); rintro e wc ⟨bc, rfl, oc, hb_wc⟩; have hs_wc := hb_wc.size; (try simp at hs_wc)))
      have OC := Lib.hid oc
      clear oc
      go_wp2_with ((go_at_call 20; (with_reducible refine (eqG _ _ _ _ L _ ?_ ?_ hk hr0.out).mono ?_); (focus ((exact OB.out.read.below (by repeat (first | assumption | exact Below.refl _ _ | (refine below_chain ?_ (by assumption) (by first | omega | (simp <;> omega) | simp)) | (refine Below.alloc ?_ (by first | omega | (simp <;> omega) | simp) _) | (apply below_drewN) | (apply below_drew) | (refine Below.setCell ?_ (by first | omega | (simp <;> omega) | simp) _)))); done)); (focus ((exact OC.out.read); done)); rintro e wf ⟨rfl, hb_wf⟩; have hs_wf := hb_wf.size; (try simp at hs_wf)))
      go_wp2_with ((go_at_call 9; (with_reducible refine (toInts q d xs _ ?_ hx1).mono ?_); (focus ((exact H.out.2.below (by repeat (first | assumption | exact Below.refl _ _ | (refine below_chain ?_ (by assumption) (by first | omega | (simp <;> omega) | simp)) | (refine Below.alloc ?_ (by first | omega | (simp <;> omega) | simp) _) | (apply below_drewN) | (apply below_drew) | (refine Below.setCell ?_ (by first | omega | (simp <;> omega) | simp) _)))); done)); rintro e wz ⟨rfl, oz, hb_wz⟩; have hs_wz := hb_wz.size; (try simp at hs_wz)))
      have OZ := Lib.hid oz
      clear oz
      go_wp2_with ((go_at_call 12; (with_reducible refine (eqInts _ _ _ _ xs _ ?_ ?_ hx3).mono ?_); (focus ((exact (OY.out.below (by repeat (first | assumption | exact Below.refl _ _ | (refine below_chain ?_ (by assumption) (by first | omega | (simp <;> omega) | simp)) | (refine Below.alloc ?_ (by first | omega | (simp <;> omega) | simp) _) | (apply below_drewN) | (apply below_drew) | (refine Below.setCell ?_ (by first | omega | (simp <;> omega) | simp) _)))).ints); done)); (focus ((exact OZ.out.ints); done)); rintro e wv ⟨rfl, hb_wv⟩; have hs_wv := hb_wv.size; (try simp at hs_wv)))
      have hBy : Below wy.heap.size wy wv := (by repeat (first | assumption | exact Below.refl _ _ | (refine below_chain ?_ (by assumption) (by first | omega | (simp <;> omega) | simp)) | (refine Below.alloc ?_ (by first | omega | (simp <;> omega) | simp) _) | (apply below_drewN) | (apply below_drew) | (refine Below.setCell ?_ (by first | omega | (simp <;> omega) | simp) _)))
      have hBb : Below wb.heap.size wb wv := (by repeat (first | assumption | exact Below.refl _ _ | (refine below_chain ?_ (by assumption) (by first | omega | (simp <;> omega) | simp)) | (refine Below.alloc ?_ (by first | omega | (simp <;> omega) | simp) _) | (apply below_drewN) | (apply below_drew) | (refine Below.setCell ?_ (by first | omega | (simp <;> omega) | simp) _)))
      have hBw : Below w.heap.size w ws := (by repeat (first | assumption | exact Below.refl _ _ | (refine below_chain ?_ (by assumption) (by first | omega | (simp <;> omega) | simp)) | (refine Below.alloc ?_ (by first | omega | (simp <;> omega) | simp) _) | (apply below_drewN) | (apply below_drew) | (refine Below.setCell ?_ (by first | omega | (simp <;> omega) | simp) _)))
      have hzw := hBw.size
      have hzb : ws.heap.size ≤ wb.heap.size := hs_wb
      have hzy : wb.heap.size ≤ wy.heap.size := hs_wy
      have HK := Lib.hid (And.intro (OB.out.below hBb) (And.intro (OY.out.below hBy) (And.intro (hBw.trans ((hb_wb.trans (hBb.mono hzb)).mono hzw)) (fun (i b c : Nat) (h : bb[i]? = some (b, c)) => OB.out.z i b c h))))
      clear hb_wa hb_wx hb_ws hb_wb hb_wy hb_wi hb_we hb_wc hb_wf hb_wz hb_wv OA OC OX OZ OB OY hBy hBb hBw
      go_wp2_with (go_at_call 21; (with_reducible refine (markG ws.heap.size wb.heap.size L.length _ _ bb L _ ?_ rfl hk hr0.out HK.out.2.2.2).mono ?_); (focus (exact HK.out.1; done)); rintro e wg ⟨rfl, og, hbw_g⟩; have HGm := Lib.hid hbw_g; clear og hbw_g)
      have Bg := Lib.hid (HK.out.2.2.1.trans (HGm.out.below.mono hzw))
      have OYg := Lib.hid (HK.out.2.1.betw HGm.out (Nat.le_refl _))
      clear HK HGm
      have hzg := Bg.out.size
      have hyl := OYg.out.lt
      go_wp2_with (go_at_call 22; (with_reducible refine (markIntsS wb.heap.size xs.length xs.length (1 + (gsum L : Int)) xs _ ?_ hx1 (by omega) (by omega)).mono ?_); (focus (exact OYg.out; done)); rintro e wr ⟨rfl, hoy, hgy⟩; have HY := Lib.hid hgy; clear hoy hgy)
      have Br := Lib.hid (below_gr Bg.out HY.out.1 (by omega) (by omega))
      have hzr := Br.out.size
      clear Bg HY OYg
      go_wp2_with ((go_at_call 12; (with_reducible refine (eqI_nil _ _ _ _ _).mono ?_); rintro e wh ⟨rfl, hb_wh⟩; have hs_wh := hb_wh.size; (try simp at hs_wh)))
      go_wp2_with (go_at_call 22; (with_reducible refine (markI_nil _ _ _).mono ?_); rintro e w' ⟨rfl, rfl⟩)
      go_wp2_with (go_at_call 23; (with_reducible refine (heldI_nil _ _ _).mono ?_); rintro e w' ⟨rfl, rfl⟩)
      go_wp2_with ((go_at_call 19; (with_reducible refine (toG _ c p L _ ?_ rfl hk hr0.out).mono ?_); (focus ((exact (H.out.1.below Br.out).below (by repeat (first | assumption | exact Below.refl _ _ | (refine below_chain ?_ (by assumption) (by first | omega | (simp <;> omega) | simp)) | (refine Below.alloc ?_ (by first | omega | (simp <;> omega) | simp) _) | (apply below_drewN) | (apply below_drew) | (refine Below.setCell ?_ (by first | omega | (simp <;> omega) | simp) _)))); done)); rintro e wj ⟨bj, rfl, oj, hb_wj⟩; have hs_wj := hb_wj.size; (try simp at hs_wj)))
      have OJ := Lib.hid oj
      clear oj
      go_wp2_with ((go_at_call 9; (with_reducible refine (toInts q d xs _ ?_ hx1).mono ?_); (focus ((exact (H.out.2.below Br.out).below (by repeat (first | assumption | exact Below.refl _ _ | (refine below_chain ?_ (by assumption) (by first | omega | (simp <;> omega) | simp)) | (refine Below.alloc ?_ (by first | omega | (simp <;> omega) | simp) _) | (apply below_drewN) | (apply below_drew) | (refine Below.setCell ?_ (by first | omega | (simp <;> omega) | simp) _)))); done)); rintro e wk ⟨rfl, ok, hb_wk⟩; have hs_wk := hb_wk.size; (try simp at hs_wk)))
      have OK := Lib.hid ok
      clear ok
      go_wp2_with ((go_at_call 14; (with_reducible refine (iMatSolve_no _ _ _ _ _ _ L xs _ ?_ ?_ rfl rfl hk3 hx3 ho0.out).mono ?_); (focus ((exact OJ.out.read.below (by repeat (first | assumption | exact Below.refl _ _ | (refine below_chain ?_ (by assumption) (by first | omega | (simp <;> omega) | simp)) | (refine Below.alloc ?_ (by first | omega | (simp <;> omega) | simp) _) | (apply below_drewN) | (apply below_drew) | (refine Below.setCell ?_ (by first | omega | (simp <;> omega) | simp) _)))); done)); (focus ((exact OK.out.ints); done)); rintro e wl ⟨⟨ql, dl, rfl⟩, hb_wl⟩; have hs_wl := hb_wl.size; (try simp at hs_wl)))
      go_wp2_with ((go_at_call 12; (with_reducible refine (eqI_nil _ _ _ _ _).mono ?_); rintro e wn ⟨rfl, hb_wn⟩; have hs_wn := hb_wn.size; (try simp at hs_wn)))
      go_wp2_with (go_at_call 23; (with_reducible refine (heldI_nil _ _ _).mono ?_); rintro e w' ⟨rfl, rfl⟩)
      go_ret
      exact ⟨rfl, Br.out.trans ((show Below wr.heap.size wr wn from (by repeat (first | assumption | exact Below.refl _ _ | (refine below_chain ?_ (by assumption) (by first | omega | (simp <;> omega) | simp)) | (refine Below.alloc ?_ (by first | omega | (simp <;> omega) | simp) _) | (apply below_drewN) | (apply below_drew) | (refine Below.setCell ?_ (by first | omega | (simp <;> omega) | simp) _)))).mono hzr)⟩
  · have hx2 : (1048576 : Int) < (xs.length : Int) := by omega
    go_enter Try.func5, Try.ntmps5
    go_wp2_with fail
    go_ret
    exact ⟨rfl, (by repeat (first | assumption | exact Below.refl _ _ | (refine below_chain ?_ (by assumption) (by first | omega | (simp <;> omega) | simp)) | (refine Below.alloc ?_ (by first | omega | (simp <;> omega) | simp) _) | (apply below_drewN) | (apply below_drew) | (refine Below.setCell ?_ (by first | omega | (simp <;> omega) | simp) _)))⟩
set_option maxHeartbeats 8000000 in
set_option maxRecDepth 100000 in
theorem walk_yes (k : Nat) (w : World) (p : Option Addr) (c : Nat) (L : List (List Int)) (h : GRead w p L) (q : Option Addr) (d : Nat) (xs : List Int) (hh : Ints w q xs) (hL : L.length = k) (hX : xs.length = k) (hok : slvOk L xs) :
    Calls Try.prog 5 #[.slice p k c, .slice q k d] w fun e w' => e = .returned (.bool true) ∧ Below w.heap.size w w' := by
  have hk5 : k ≤ 5 := by have := (matOk_true.1 hok.1).2.1; omega
  have hr : ∀ r ∈ L, r.length ≤ 1048576 := fun r hr => by have := ((matOk_true.1 hok.1).2.2 r hr).1; omega
  obtain ⟨A, hA⟩ : ∃ A, slL k L xs = A := ⟨_, rfl⟩
  have hAl : A.length = k := by rw [← hA]; simp [slL]
  have c1 := fun (k' d' : Nat) p q w h hq => Lib.hid (sMatSolve_yes k k' d' p q L xs w h hq hL hok)
  have c2 := fun (k' d' : Nat) p q w h hq => Lib.hid (iMatSolve_yes k k' d' p q L xs w h hq hL hok)
  rw [hA] at c1 c2
  obtain ⟨D, hD⟩ : ∃ D, det k (ent L) = D := ⟨_, rfl⟩
  rw [hD] at c1 c2
  clear hD
  have hgs : gsum L ≤ 1099511627776 := by have := gsum_small (by omega) hr L.length; rwa [List.take_length] at this
  have H := Lib.hid (And.intro h hh)
  have HL := Lib.hid (And.intro hL (And.intro hX (And.intro hAl hr)))
  have hk1 : k ≤ 1048576 := by omega
  have hk3 : k ≤ 4000000000000000000 := by omega
  clear h hh hL hX hAl hr hok hA
  go_enter Try.func5, Try.ntmps5
  go_upto_region 5 with (go_at_call 18; (with_reducible refine (szG_at HL.out.1 c p 1048576 _ H.out.1 (by omega) (fun r hr => by have := HL.out.2.2.2 r hr; omega) (by omega) (by omega)).mono ?_); rintro e w' ⟨u, rfl, rfl, hu1, hu2⟩)
  clear hu2
  by_cases hu : u < 0
  · go_wp2_with fail
    go_ret
    exact ⟨rfl, Below.refl _ _⟩
  · go_wp2_with ((go_at_call 19; (with_reducible refine (toG k c p L _ ?_ HL.out.1 hk1 HL.out.2.2.2).mono ?_); (focus ((exact H.out.1); done)); rintro e wa ⟨ba, rfl, oa, hb_wa⟩; have hs_wa := hb_wa.size; (try simp at hs_wa)))
    have OA := Lib.hid oa
    clear oa
    go_wp2_with ((go_at_call 9; (with_reducible refine (toI_at HL.out.2.1 q d _ ?_ hk1).mono ?_); (focus ((exact H.out.2.below (by repeat (first | assumption | exact Below.refl _ _ | (refine below_chain ?_ (by assumption) (by first | omega | (simp <;> omega) | simp)) | (refine Below.alloc ?_ (by first | omega | (simp <;> omega) | simp) _) | (apply below_drewN) | (apply below_drew) | (refine Below.setCell ?_ (by first | omega | (simp <;> omega) | simp) _)))); done)); rintro e wx ⟨rfl, ox, hb_wx⟩; have hs_wx := hb_wx.size; (try simp at hs_wx)))
    have OX := Lib.hid ox
    clear ox
    go_wp2_with ((go_at_call 15; (with_reducible refine ((c1 _ _ _ _ _ ?_ ?_).out).mono ?_); (focus ((exact OA.out.read.below (by repeat (first | assumption | exact Below.refl _ _ | (refine below_chain ?_ (by assumption) (by first | omega | (simp <;> omega) | simp)) | (refine Below.alloc ?_ (by first | omega | (simp <;> omega) | simp) _) | (apply below_drewN) | (apply below_drew) | (refine Below.setCell ?_ (by first | omega | (simp <;> omega) | simp) _)))); done)); (focus ((exact OX.out.ints); done)); rintro e ws ⟨gs, cs, rfl, hgs2, os, hb_ws⟩; have hs_ws := hb_ws.size; (try simp at hs_ws)))
    have OS := Lib.hid os
    clear os
    go_wp2_with ((go_at_call 19; (with_reducible refine (toG k c p L _ ?_ HL.out.1 hk1 HL.out.2.2.2).mono ?_); (focus ((exact H.out.1.below (by repeat (first | assumption | exact Below.refl _ _ | (refine below_chain ?_ (by assumption) (by first | omega | (simp <;> omega) | simp)) | (refine Below.alloc ?_ (by first | omega | (simp <;> omega) | simp) _) | (apply below_drewN) | (apply below_drew) | (refine Below.setCell ?_ (by first | omega | (simp <;> omega) | simp) _)))); done)); rintro e wb ⟨bb, rfl, ob, hb_wb⟩; have hs_wb := hb_wb.size; (try simp at hs_wb)))
    have OB := Lib.hid ob
    clear ob
    go_wp2_with ((go_at_call 9; (with_reducible refine (toI_at HL.out.2.1 q d _ ?_ hk1).mono ?_); (focus ((exact H.out.2.below (by repeat (first | assumption | exact Below.refl _ _ | (refine below_chain ?_ (by assumption) (by first | omega | (simp <;> omega) | simp)) | (refine Below.alloc ?_ (by first | omega | (simp <;> omega) | simp) _) | (apply below_drewN) | (apply below_drew) | (refine Below.setCell ?_ (by first | omega | (simp <;> omega) | simp) _)))); done)); rintro e wy ⟨rfl, oy, hb_wy⟩; have hs_wy := hb_wy.size; (try simp at hs_wy)))
    have OY := Lib.hid oy
    clear oy
    go_wp2_with ((go_at_call 14; (with_reducible refine ((c2 _ _ _ _ _ ?_ ?_).out).mono ?_); (focus ((exact OB.out.read.below (by repeat (first | assumption | exact Below.refl _ _ | (refine below_chain ?_ (by assumption) (by first | omega | (simp <;> omega) | simp)) | (refine Below.alloc ?_ (by first | omega | (simp <;> omega) | simp) _) | (apply below_drewN) | (apply below_drew) | (refine Below.setCell ?_ (by first | omega | (simp <;> omega) | simp) _)))); done)); (focus ((exact OY.out.ints); done)); rintro e wi ⟨gi, ci, rfl, hgi, oi, hb_wi⟩; have hs_wi := hb_wi.size; (try simp at hs_wi)))
    have OI := Lib.hid oi
    clear oi
    go_wp2_with ((go_at_call 12; (with_reducible refine (eqI_at HL.out.2.2.1 _ _ _ _ _ ?_ ?_ hk3).mono ?_); (focus ((exact OI.out.ints); done)); (focus ((exact OS.out.ints.below (by repeat (first | assumption | exact Below.refl _ _ | (refine below_chain ?_ (by assumption) (by first | omega | (simp <;> omega) | simp)) | (refine Below.alloc ?_ (by first | omega | (simp <;> omega) | simp) _) | (apply below_drewN) | (apply below_drew) | (refine Below.setCell ?_ (by first | omega | (simp <;> omega) | simp) _)))); done)); rintro e we ⟨rfl, hb_we⟩; have hs_we := hb_we.size; (try simp at hs_we)))
    go_wp2_with ((go_at_call 19; (with_reducible refine (toG k c p L _ ?_ HL.out.1 hk1 HL.out.2.2.2).mono ?_); (focus ((exact H.out.1.below (by repeat (first | assumption | exact Below.refl _ _ | (refine below_chain ?_ (by assumption) (by first | omega | (simp <;> omega) | simp)) | (refine Below.alloc ?_ (by first | omega | (simp <;> omega) | simp) _) | (apply below_drewN) | (apply below_drew) | (refine Below.setCell ?_ (by first | omega | (simp <;> omega) | simp) _)))); done)); rintro e wc ⟨bc, rfl, oc, hb_wc⟩; have hs_wc := hb_wc.size; (try simp at hs_wc)))
    have OC := Lib.hid oc
    clear oc
    go_wp2_with ((go_at_call 20; (with_reducible refine (eqG_at HL.out.1 _ _ _ _ _ ?_ ?_ hk1 HL.out.2.2.2).mono ?_); (focus ((exact OB.out.read.below (by repeat (first | assumption | exact Below.refl _ _ | (refine below_chain ?_ (by assumption) (by first | omega | (simp <;> omega) | simp)) | (refine Below.alloc ?_ (by first | omega | (simp <;> omega) | simp) _) | (apply below_drewN) | (apply below_drew) | (refine Below.setCell ?_ (by first | omega | (simp <;> omega) | simp) _)))); done)); (focus ((exact OC.out.read); done)); rintro e wf ⟨rfl, hb_wf⟩; have hs_wf := hb_wf.size; (try simp at hs_wf)))
    go_wp2_with ((go_at_call 9; (with_reducible refine (toI_at HL.out.2.1 q d _ ?_ hk1).mono ?_); (focus ((exact H.out.2.below (by repeat (first | assumption | exact Below.refl _ _ | (refine below_chain ?_ (by assumption) (by first | omega | (simp <;> omega) | simp)) | (refine Below.alloc ?_ (by first | omega | (simp <;> omega) | simp) _) | (apply below_drewN) | (apply below_drew) | (refine Below.setCell ?_ (by first | omega | (simp <;> omega) | simp) _)))); done)); rintro e wz ⟨rfl, oz, hb_wz⟩; have hs_wz := hb_wz.size; (try simp at hs_wz)))
    have OZ := Lib.hid oz
    clear oz
    go_wp2_with ((go_at_call 12; (with_reducible refine (eqI_at HL.out.2.1 _ _ _ _ _ ?_ ?_ hk3).mono ?_); (focus ((exact (OY.out.below (by repeat (first | assumption | exact Below.refl _ _ | (refine below_chain ?_ (by assumption) (by first | omega | (simp <;> omega) | simp)) | (refine Below.alloc ?_ (by first | omega | (simp <;> omega) | simp) _) | (apply below_drewN) | (apply below_drew) | (refine Below.setCell ?_ (by first | omega | (simp <;> omega) | simp) _)))).ints); done)); (focus ((exact OZ.out.ints); done)); rintro e wv ⟨rfl, hb_wv⟩; have hs_wv := hb_wv.size; (try simp at hs_wv)))
    have hBi : Below wi.heap.size wi wv := (by repeat (first | assumption | exact Below.refl _ _ | (refine below_chain ?_ (by assumption) (by first | omega | (simp <;> omega) | simp)) | (refine Below.alloc ?_ (by first | omega | (simp <;> omega) | simp) _) | (apply below_drewN) | (apply below_drew) | (refine Below.setCell ?_ (by first | omega | (simp <;> omega) | simp) _)))
    have hBy : Below wy.heap.size wy wv := (by repeat (first | assumption | exact Below.refl _ _ | (refine below_chain ?_ (by assumption) (by first | omega | (simp <;> omega) | simp)) | (refine Below.alloc ?_ (by first | omega | (simp <;> omega) | simp) _) | (apply below_drewN) | (apply below_drew) | (refine Below.setCell ?_ (by first | omega | (simp <;> omega) | simp) _)))
    have hBb : Below wb.heap.size wb wv := (by repeat (first | assumption | exact Below.refl _ _ | (refine below_chain ?_ (by assumption) (by first | omega | (simp <;> omega) | simp)) | (refine Below.alloc ?_ (by first | omega | (simp <;> omega) | simp) _) | (apply below_drewN) | (apply below_drew) | (refine Below.setCell ?_ (by first | omega | (simp <;> omega) | simp) _)))
    have hBs : Below ws.heap.size ws wv := (by repeat (first | assumption | exact Below.refl _ _ | (refine below_chain ?_ (by assumption) (by first | omega | (simp <;> omega) | simp)) | (refine Below.alloc ?_ (by first | omega | (simp <;> omega) | simp) _) | (apply below_drewN) | (apply below_drew) | (refine Below.setCell ?_ (by first | omega | (simp <;> omega) | simp) _)))
    have hBw : Below w.heap.size w ws := (by repeat (first | assumption | exact Below.refl _ _ | (refine below_chain ?_ (by assumption) (by first | omega | (simp <;> omega) | simp)) | (refine Below.alloc ?_ (by first | omega | (simp <;> omega) | simp) _) | (apply below_drewN) | (apply below_drew) | (refine Below.setCell ?_ (by first | omega | (simp <;> omega) | simp) _)))
    have hzw := hBw.size
    have hzb : ws.heap.size ≤ wb.heap.size := hs_wb
    have hzy : wb.heap.size ≤ wy.heap.size := hs_wy
    have hyz : wb.heap.size < wy.heap.size := OY.out.lt
    have hgsl := OS.out.lt
    have HK := Lib.hid (And.intro (OB.out.below hBb) (And.intro (OY.out.below hBy) (And.intro (hBw.trans (hBs.mono hzw)) (And.intro (fun (i b c : Nat) (h : bb[i]? = some (b, c)) => OB.out.z i b c h) (And.intro (OI.out.below hBi) (OS.out.below hBs))))))
    clear hb_wa hb_wx hb_ws hb_wb hb_wy hb_wi hb_we hb_wc hb_wf hb_wz hb_wv OA OC OX OZ OB OY OI OS hBy hBb hBw hBs hBi
    go_wp2_with (go_at_call 21; (with_reducible refine (markG ws.heap.size wb.heap.size k _ _ bb L _ ?_ HL.out.1 hk1 HL.out.2.2.2 HK.out.2.2.2.1).mono ?_); (focus (exact HK.out.1; done)); rintro e wg ⟨rfl, og, hbw_g⟩; have HGm := Lib.hid hbw_g; clear og hbw_g)
    have Bg := Lib.hid (HK.out.2.2.1.trans (HGm.out.below.mono hzw))
    have OYg := Lib.hid (And.intro (HK.out.2.1.betw HGm.out (Nat.le_refl _)) (And.intro (HK.out.2.2.2.2.1.betw HGm.out (by omega)) (HK.out.2.2.2.2.2.block (HGm.out.below.block _ hgsl))))
    clear HK HGm
    have hzg := Bg.out.size
    have hyl := OYg.out.1.lt
    go_wp2_with (go_at_call 22; (with_reducible refine (markIntsS wb.heap.size k k (1 + (gsum L : Int)) xs _ ?_ hk1 (by omega) (by omega)).mono ?_); (focus (exact OYg.out.1; done)); rintro e wr ⟨rfl, hoy, hgy⟩; have HY := Lib.hid hgy; clear hoy hgy)
    have Br := Lib.hid (below_gr Bg.out HY.out.1 (by omega) (by omega))
    have hzr := Br.out.size
    have OR := Lib.hid (And.intro (OYg.out.2.1.grown HY.out.1 (by omega)) (OYg.out.2.2.grown HY.out.1 (by omega)))
    clear Bg HY OYg
    have hgir := OR.out.1.lt
    have hgsr := OR.out.2.lt
    go_wp2_with ((go_at_call 12; (with_reducible refine (eqI_at HL.out.2.2.1 _ _ _ _ _ ?_ ?_ hk3).mono ?_); (focus ((exact OR.out.1.ints); done)); (focus ((exact OR.out.2.ints); done)); rintro e wh ⟨rfl, hb_wh⟩; have hs_wh := hb_wh.size; (try simp at hs_wh)))
    have OH := Lib.hid (And.intro (OR.out.1.below hb_wh) (And.intro (OR.out.2.below hb_wh) (Br.out.trans (hb_wh.mono hzr))))
    clear OR Br hb_wh
    have hzh := OH.out.2.2.size
    go_wp2_with (go_at_call 22; (with_reducible refine (markIntsS gi k ci 1 A _ ?_ hk1 (by omega) (by omega)).mono ?_); (focus (exact OH.out.1; done)); rintro e wm ⟨rfl, hom, hgm⟩; have HM := Lib.hid (And.intro hom hgm); clear hom hgm)
    have OM := Lib.hid (And.intro HM.out.1 (And.intro (OH.out.2.1.grown HM.out.2.1 (by omega)) (below_gr OH.out.2.2 HM.out.2.1 (by omega) (by omega))))
    clear HM OH
    have hzm := OM.out.2.2.size
    have hgim := OM.out.1.lt
    have hgsm := OM.out.2.1.lt
    go_wp2_with (go_at_call 23; (with_reducible refine (heldIntsS k _ _ 1 _ ?_ hk1 (by omega) (by omega)).mono ?_); (focus (exact OM.out.1.ints; done)); rintro e w' ⟨rfl, rfl⟩)
    go_wp2_with ((go_at_call 19; (with_reducible refine (toG k c p L _ ?_ HL.out.1 hk1 HL.out.2.2.2).mono ?_); (focus ((exact H.out.1.below OM.out.2.2); done)); rintro e wj ⟨bj, rfl, oj, hb_wj⟩; have hs_wj := hb_wj.size; (try simp at hs_wj)))
    have OJ := Lib.hid oj
    clear oj
    go_wp2_with ((go_at_call 9; (with_reducible refine (toI_at HL.out.2.1 q d _ ?_ hk1).mono ?_); (focus ((exact (H.out.2.below OM.out.2.2).below (by repeat (first | assumption | exact Below.refl _ _ | (refine below_chain ?_ (by assumption) (by first | omega | (simp <;> omega) | simp)) | (refine Below.alloc ?_ (by first | omega | (simp <;> omega) | simp) _) | (apply below_drewN) | (apply below_drew) | (refine Below.setCell ?_ (by first | omega | (simp <;> omega) | simp) _)))); done)); rintro e wk ⟨rfl, ok, hb_wk⟩; have hs_wk := hb_wk.size; (try simp at hs_wk)))
    have OK := Lib.hid ok
    clear ok
    go_wp2_with ((go_at_call 14; (with_reducible refine ((c2 _ _ _ _ _ ?_ ?_).out).mono ?_); (focus ((exact OJ.out.read.below (by repeat (first | assumption | exact Below.refl _ _ | (refine below_chain ?_ (by assumption) (by first | omega | (simp <;> omega) | simp)) | (refine Below.alloc ?_ (by first | omega | (simp <;> omega) | simp) _) | (apply below_drewN) | (apply below_drew) | (refine Below.setCell ?_ (by first | omega | (simp <;> omega) | simp) _)))); done)); (focus ((exact OK.out.ints); done)); rintro e wl ⟨gl, cl, rfl, hgl, ol, hb_wl⟩; have hs_wl := hb_wl.size; (try simp at hs_wl)))
    have OL := Lib.hid ol
    clear ol
    go_wp2_with ((go_at_call 12; (with_reducible refine (eqI_at HL.out.2.2.1 _ _ _ _ _ ?_ ?_ hk3).mono ?_); (focus ((exact OL.out.ints); done)); (focus ((exact (OM.out.2.1.below (by repeat (first | assumption | exact Below.refl _ _ | (refine below_chain ?_ (by assumption) (by first | omega | (simp <;> omega) | simp)) | (refine Below.alloc ?_ (by first | omega | (simp <;> omega) | simp) _) | (apply below_drewN) | (apply below_drew) | (refine Below.setCell ?_ (by first | omega | (simp <;> omega) | simp) _)))).ints); done)); rintro e wn ⟨rfl, hb_wn⟩; have hs_wn := hb_wn.size; (try simp at hs_wn)))
    go_wp2_with (go_at_call 23; (with_reducible refine (heldIntsS k _ _ 1 _ ?_ hk1 (by omega) (by omega)).mono ?_); (focus (exact (OM.out.1.below (by repeat (first | assumption | exact Below.refl _ _ | (refine below_chain ?_ (by assumption) (by first | omega | (simp <;> omega) | simp)) | (refine Below.alloc ?_ (by first | omega | (simp <;> omega) | simp) _) | (apply below_drewN) | (apply below_drew) | (refine Below.setCell ?_ (by first | omega | (simp <;> omega) | simp) _)))).ints; done)); rintro e w' ⟨rfl, rfl⟩)
    go_ret
    exact ⟨rfl, OM.out.2.2.trans ((show Below wm.heap.size wm wn from (by repeat (first | assumption | exact Below.refl _ _ | (refine below_chain ?_ (by assumption) (by first | omega | (simp <;> omega) | simp)) | (refine Below.alloc ?_ (by first | omega | (simp <;> omega) | simp) _) | (apply below_drewN) | (apply below_drew) | (refine Below.setCell ?_ (by first | omega | (simp <;> omega) | simp) _)))).mono hzm)⟩
theorem walk (w : World) (p : Option Addr) (c : Nat) (L : List (List Int)) (h : GRead w p L) (hl : L.length ≤ 9223372036854775807 ∧ ∀ r ∈ L, r.length ≤ 9223372036854775807) (q : Option Addr) (d : Nat) (xs : List Int) (hh : Ints w q xs) (hlh : xs.length ≤ 9223372036854775807) :
    Calls Try.prog 5 #[.slice p L.length c, .slice q xs.length d] w fun e w' => e = .returned (.bool true) ∧ Below w.heap.size w w' := by
  by_cases hok : slvOk L xs
  · have := walk_yes L.length w p c L h q d xs hh rfl hok.2.1 hok
    rw [hok.2.1]; exact this
  · exact walk_no w p c L h hl q d xs hh hlh hok

set_option maxRecDepth 100000 in
theorem lifted (os : Os) (started : os.Started) (H : Type) (enc : TypeId × Value → H) :
    ReturnsInHanded {} Try.checked os 5 .any (Rows.fnExactMatSolveSpec.pre6 enc Try.prog Try.f5 Rows.fnExactMatSolveRow.domain false) (Rows.fnExactMatSolveSpec.post enc Try.prog Try.f5 false true false false) := by
  refine returnsInHanded_of_change (C := Try.checked) own started (by kernel_rfl) Try.func5
    (ChangeSpec.witness6 (enc := enc) (C := Try.checked) false ⟨#[], #[.slice none 0 0, .slice none 0 0], []⟩ 8 (by kernel_rfl) (by kernel_rfl) (by kernel_rfl) (by kernel_rfl)) ?_
  intro W base args ds gs before hval0 hW hcnd _
  have hval : ∀ (j : Nat) t v, Try.f5.params[j]? = some t → args[j]? = some v → Value.okWide Try.prog W .any base t v := hval0
  have hW' := hW
  obtain ⟨p, q, hA0, hV, rfl, hfz, hnd⟩ := hW
  have hA : DataW.TrodAll enc Try.prog W 0 (fun _ => true) true Try.f5.params.toList args.toList ds p := hA0
  rw [Try.params5] at hA hval
  obtain ⟨v0, vs0, d0, ds0, p0, q0, hargs, rfl, rfl, h0, r0⟩ := trodAll_cons hA
  obtain ⟨v1, vs1, d1, ds1, p1, q1, rfl, rfl, rfl, h1, r1⟩ := trodAll_cons r0
  obtain ⟨rfl, rfl, rfl⟩ := trodAll_nil r1
  obtain rfl : args = #[v0, v1] := by cases args; simp_all
  obtain ⟨rfl, rfl⟩ := trodVars_none hV
  obtain ⟨a0, len0, cap0, rfl⟩ := okWide_slice Try.underlying33 (hval 0 33 v0 rfl rfl)
  have k0 := h0
  have lt0 : ∀ x ∈ p0, x.block < W.heap.size := by obtain ⟨m, hm⟩ := k0; exact DataW.trod_lt m _ _ _ hm
  obtain ⟨x0, e0, r0', l0⟩ := open_grid h0
  subst e0
  obtain ⟨a1, len1, cap1, rfl⟩ := okWide_slice Try.underlying23 (hval 1 23 v1 rfl rfl)
  have k1 := h1
  have lt1 : ∀ x ∈ p1, x.block < W.heap.size := by obtain ⟨m, hm⟩ := k1; exact DataW.trod_lt m _ _ _ hm
  obtain ⟨x1, e1, r1', l1⟩ := open_nums h1
  subst e1
  clear hA0 hval0
  refine (walk W a0 cap0 x0 r0' l0 a1 cap1 x1 r1' l1).mono fun e W' ⟨he, bel⟩ => ?_
  subst he
  exact ⟨_, rfl, _, _, _, [], _, [], hW', trodAll_mk1 (shut_bool Try.underlying4 _), (trodAll_cons_mk (Below.trod laidOut (by kernel_rfl) (of_decide_eq_true (by kernel_rfl)) k0 bel lt0) (trodAll_cons_mk (Below.trod laidOut (by kernel_rfl) (of_decide_eq_true (by kernel_rfl)) k1 bel lt1) trodAll_mk0)), rfl, bel.frame _, fun h => by cases h⟩

theorem over : Rows.fnExactMatSolveRow.holds Try.pinned (OpenSpec.ofChange Rows.fnExactMatSolveSpec) :=
  OpenClaim.holds_of_wide 5 Try.f5 rfl rfl rfl rfl rfl rfl rfl ⟨rfl, rfl, rfl, rfl, rfl⟩ rfl rfl rfl rfl rfl (by kernel_rfl) Try.func5 (by kernel_rfl)
    (of_decide_eq_true (by kernel_rfl)) (by unfold Func.isWrapper; first | (rw [if_pos (by decide +kernel)]; kernel_rfl) | (rw [if_neg (by decide +kernel)]; exact ⟨rfl, rfl⟩))
    (fun os started H enc _ => lifted os started H enc)

theorem proved : Rows.FnExactMatSolveSaid :=
  over
end Go.Proofs.Ytddmbjobibljaaa.fnExactMatSolve

