/-
  For every two lists of lists of numbers the law FnExactMatTimes returns true: impl.MatTimes answers as the reference model does, leaves its arguments as they were, and its rows are memory of their own. No condition: every two lists are taken.
-/
import Derived.Test.YthpfhbogpnhgmaaNk3
import Derived.Test.YthpfhbogpnhgmaaMj
import Derived.Test.YthpfhbogpnhgmaaGOpen
namespace Go.Proofs.Ythpfhbogpnhgmaa.fnExactMatTimes
open Go.ChangeShapes Go.WideShapes Go.ChangeAt Go.RowKit
set_option linter.unusedVariables false

set_option maxHeartbeats 8000000 in
set_option maxRecDepth 100000 in
theorem walk_no (w : World) (p : Option Addr) (c : Nat) (A : List (List Int)) (h : GRead w p A) (hl : A.length ≤ 9223372036854775807 ∧ ∀ r ∈ A, r.length ≤ 9223372036854775807) (q : Option Addr) (d : Nat) (B : List (List Int)) (hh : GRead w q B) (hlh : B.length ≤ 9223372036854775807 ∧ ∀ r ∈ B, r.length ≤ 9223372036854775807) (hok : ¬ tmsOk A B) :
    Calls Try.prog 11 #[.slice p A.length c, .slice q B.length d] w fun e w' => e = .returned (.bool true) ∧ Below w.heap.size w w' := by
  obtain ⟨n, hn⟩ : ∃ n, B.length = n := ⟨_, rfl⟩
  obtain ⟨k, hkk⟩ : ∃ k, A.length = k := ⟨_, rfl⟩
  have H := Lib.hid (And.intro h hh)
  have HL := Lib.hid (And.intro hl hlh)
  have HN := Lib.hid (And.intro hkk hn)
  have ho0 := Lib.hid hok
  rw [hn, hkk]
  clear h hl hh hlh hok hn hkk
  go_enter Try.func11, Try.ntmps11
  go_upto_region 3 with (go_at_call 30; (with_reducible refine (szG_at HN.out.1 c p 1048576 _ H.out.1 (by have := HL.out.1.1; rw [HN.out.1] at this; exact this) HL.out.1.2 (by omega) (by omega)).mono ?_); rintro e w' ⟨u, rfl, rfl, hu1, hu2⟩)
  by_cases hu : u < 0
  · clear hu2
    go_wp2_with fail
    go_ret
    exact ⟨rfl, Below.refl _ _⟩
  obtain ⟨hk, hr⟩ := hu2 (by omega)
  have hr0 := Lib.hid hr
  clear hr hu2
  go_upto_region 6 with (go_at_call 30; (with_reducible refine (szG_at HN.out.2 d q u _ H.out.2 (by have := HL.out.2.1; rw [HN.out.2] at this; exact this) HL.out.2.2 (by omega) (by omega)).mono ?_); rintro e w' ⟨u2, rfl, rfl, hu3, hu4⟩)
  by_cases hu' : u2 < 0
  · clear hu4
    go_wp2_with fail
    go_ret
    exact ⟨rfl, Below.refl _ _⟩
  obtain ⟨hnn, hr⟩ := hu4 (by omega)
  have hr1 := Lib.hid hr
  clear hr hu4
  have hk3 : k ≤ 4000000000000000000 := by omega
  have hn3 : n ≤ 4000000000000000000 := by omega
  have hgs : gsum A ≤ 1099511627776 := by have := gsum_small (by rw [HN.out.1]; exact hk) hr0.out A.length; rwa [List.take_length] at this
  have hgs2 : gsum B ≤ 1099511627776 := by have := gsum_small (by rw [HN.out.2]; exact hnn) hr1.out B.length; rwa [List.take_length] at this
  go_wp2_with ((go_at_call 32; (with_reducible refine (toG k c p A _ ?_ HN.out.1 hk hr0.out).mono ?_); (focus ((exact H.out.1); done)); rintro e wa ⟨ba, rfl, oa, hb_wa⟩; have hs_wa := hb_wa.size; (try simp at hs_wa)))
  have OA := Lib.hid oa
  clear oa
  go_wp2_with ((go_at_call 32; (with_reducible refine (toG n d q B _ ?_ HN.out.2 hnn hr1.out).mono ?_); (focus ((exact H.out.2.below (by repeat (first | assumption | exact Below.refl _ _ | (refine below_chain ?_ (by assumption) (by first | omega | (simp <;> omega) | simp)) | (refine Below.alloc ?_ (by first | omega | (simp <;> omega) | simp) _) | (apply below_drewN) | (apply below_drew) | (refine Below.setCell ?_ (by first | omega | (simp <;> omega) | simp) _)))); done)); rintro e wx ⟨bx, rfl, ox, hb_wx⟩; have hs_wx := hb_wx.size; (try simp at hs_wx)))
  have OX := Lib.hid ox
  clear ox
  go_wp2_with ((go_at_call 21; (with_reducible refine (sT_no _ _ _ _ _ _ A B _ ?_ ?_ HN.out.1 HN.out.2 hk3 hn3 ho0.out).mono ?_); (focus ((exact OA.out.read.below (by repeat (first | assumption | exact Below.refl _ _ | (refine below_chain ?_ (by assumption) (by first | omega | (simp <;> omega) | simp)) | (refine Below.alloc ?_ (by first | omega | (simp <;> omega) | simp) _) | (apply below_drewN) | (apply below_drew) | (refine Below.setCell ?_ (by first | omega | (simp <;> omega) | simp) _)))); done)); (focus ((exact OX.out.read); done)); rintro e ws ⟨⟨gs, rfl⟩, hb_ws⟩; have hs_ws := hb_ws.size; (try simp at hs_ws)))
  go_wp2_with ((go_at_call 32; (with_reducible refine (toG k c p A _ ?_ HN.out.1 hk hr0.out).mono ?_); (focus ((exact H.out.1.below (by repeat (first | assumption | exact Below.refl _ _ | (refine below_chain ?_ (by assumption) (by first | omega | (simp <;> omega) | simp)) | (refine Below.alloc ?_ (by first | omega | (simp <;> omega) | simp) _) | (apply below_drewN) | (apply below_drew) | (refine Below.setCell ?_ (by first | omega | (simp <;> omega) | simp) _)))); done)); rintro e wb ⟨bb, rfl, ob, hb_wb⟩; have hs_wb := hb_wb.size; (try simp at hs_wb)))
  have OB := Lib.hid ob
  clear ob
  go_wp2_with ((go_at_call 32; (with_reducible refine (toG n d q B _ ?_ HN.out.2 hnn hr1.out).mono ?_); (focus ((exact H.out.2.below (by repeat (first | assumption | exact Below.refl _ _ | (refine below_chain ?_ (by assumption) (by first | omega | (simp <;> omega) | simp)) | (refine Below.alloc ?_ (by first | omega | (simp <;> omega) | simp) _) | (apply below_drewN) | (apply below_drew) | (refine Below.setCell ?_ (by first | omega | (simp <;> omega) | simp) _)))); done)); rintro e wy ⟨by_, rfl, oy, hb_wy⟩; have hs_wy := hb_wy.size; (try simp at hs_wy)))
  have OY := Lib.hid oy
  clear oy
  go_wp2_with ((go_at_call 20; (with_reducible refine (iT_no _ _ _ _ _ _ A B _ ?_ ?_ HN.out.1 HN.out.2 hk3 hn3 ho0.out).mono ?_); (focus ((exact OB.out.read.below (by repeat (first | assumption | exact Below.refl _ _ | (refine below_chain ?_ (by assumption) (by first | omega | (simp <;> omega) | simp)) | (refine Below.alloc ?_ (by first | omega | (simp <;> omega) | simp) _) | (apply below_drewN) | (apply below_drew) | (refine Below.setCell ?_ (by first | omega | (simp <;> omega) | simp) _)))); done)); (focus ((exact OY.out.read); done)); rintro e wi ⟨⟨qi, di, rfl⟩, hb_wi⟩; have hs_wi := hb_wi.size; (try simp at hs_wi)))
  go_wp2_with ((go_at_call 34; (with_reducible refine (eqG_nil _ _ _ _ _).mono ?_); rintro e we ⟨rfl, hb_we⟩; have hs_we := hb_we.size; (try simp at hs_we)))
  go_wp2_with ((go_at_call 32; (with_reducible refine (toG k c p A _ ?_ HN.out.1 hk hr0.out).mono ?_); (focus ((exact H.out.1.below (by repeat (first | assumption | exact Below.refl _ _ | (refine below_chain ?_ (by assumption) (by first | omega | (simp <;> omega) | simp)) | (refine Below.alloc ?_ (by first | omega | (simp <;> omega) | simp) _) | (apply below_drewN) | (apply below_drew) | (refine Below.setCell ?_ (by first | omega | (simp <;> omega) | simp) _)))); done)); rintro e wc ⟨bc, rfl, oc, hb_wc⟩; have hs_wc := hb_wc.size; (try simp at hs_wc)))
  have OC := Lib.hid oc
  clear oc
  go_wp2_with ((go_at_call 34; (with_reducible refine (eqG_at HN.out.1 _ _ _ _ _ ?_ ?_ hk hr0.out).mono ?_); (focus ((exact OB.out.read.below (by repeat (first | assumption | exact Below.refl _ _ | (refine below_chain ?_ (by assumption) (by first | omega | (simp <;> omega) | simp)) | (refine Below.alloc ?_ (by first | omega | (simp <;> omega) | simp) _) | (apply below_drewN) | (apply below_drew) | (refine Below.setCell ?_ (by first | omega | (simp <;> omega) | simp) _)))); done)); (focus ((exact OC.out.read); done)); rintro e wf ⟨rfl, hb_wf⟩; have hs_wf := hb_wf.size; (try simp at hs_wf)))
  go_wp2_with ((go_at_call 32; (with_reducible refine (toG n d q B _ ?_ HN.out.2 hnn hr1.out).mono ?_); (focus ((exact H.out.2.below (by repeat (first | assumption | exact Below.refl _ _ | (refine below_chain ?_ (by assumption) (by first | omega | (simp <;> omega) | simp)) | (refine Below.alloc ?_ (by first | omega | (simp <;> omega) | simp) _) | (apply below_drewN) | (apply below_drew) | (refine Below.setCell ?_ (by first | omega | (simp <;> omega) | simp) _)))); done)); rintro e wz ⟨bz, rfl, oz, hb_wz⟩; have hs_wz := hb_wz.size; (try simp at hs_wz)))
  have OZ := Lib.hid oz
  clear oz
  go_wp2_with ((go_at_call 34; (with_reducible refine (eqG_at HN.out.2 _ _ _ _ _ ?_ ?_ hnn hr1.out).mono ?_); (focus ((exact OY.out.read.below (by repeat (first | assumption | exact Below.refl _ _ | (refine below_chain ?_ (by assumption) (by first | omega | (simp <;> omega) | simp)) | (refine Below.alloc ?_ (by first | omega | (simp <;> omega) | simp) _) | (apply below_drewN) | (apply below_drew) | (refine Below.setCell ?_ (by first | omega | (simp <;> omega) | simp) _)))); done)); (focus ((exact OZ.out.read); done)); rintro e wv ⟨rfl, hb_wv⟩; have hs_wv := hb_wv.size; (try simp at hs_wv)))
  have hBy : Below wy.heap.size wy wv := (by repeat (first | assumption | exact Below.refl _ _ | (refine below_chain ?_ (by assumption) (by first | omega | (simp <;> omega) | simp)) | (refine Below.alloc ?_ (by first | omega | (simp <;> omega) | simp) _) | (apply below_drewN) | (apply below_drew) | (refine Below.setCell ?_ (by first | omega | (simp <;> omega) | simp) _)))
  have hBb : Below wb.heap.size wb wv := (by repeat (first | assumption | exact Below.refl _ _ | (refine below_chain ?_ (by assumption) (by first | omega | (simp <;> omega) | simp)) | (refine Below.alloc ?_ (by first | omega | (simp <;> omega) | simp) _) | (apply below_drewN) | (apply below_drew) | (refine Below.setCell ?_ (by first | omega | (simp <;> omega) | simp) _)))
  have hBw : Below w.heap.size w ws := (by repeat (first | assumption | exact Below.refl _ _ | (refine below_chain ?_ (by assumption) (by first | omega | (simp <;> omega) | simp)) | (refine Below.alloc ?_ (by first | omega | (simp <;> omega) | simp) _) | (apply below_drewN) | (apply below_drew) | (refine Below.setCell ?_ (by first | omega | (simp <;> omega) | simp) _)))
  have hzw := hBw.size
  have hzb : ws.heap.size ≤ wb.heap.size := hs_wb
  have hzy : wb.heap.size ≤ wy.heap.size := hs_wy
  have HK := Lib.hid (And.intro (OB.out.below hBb) (And.intro (OY.out.below hBy) (And.intro (hBw.trans ((hb_wb.trans (hBb.mono hzb)).mono hzw)) (And.intro (fun (i b c : Nat) (h : bb[i]? = some (b, c)) => OB.out.z i b c h) (fun (i b c : Nat) (h : by_[i]? = some (b, c)) => OY.out.z i b c h)))))
  clear hb_wa hb_wx hb_ws hb_wb hb_wy hb_wi hb_we hb_wc hb_wf hb_wz hb_wv OA OC OX OZ OB OY hBy hBb hBw
  go_wp2_with (go_at_call 36; (with_reducible refine (markG ws.heap.size wb.heap.size k _ _ bb A _ ?_ HN.out.1 hk hr0.out HK.out.2.2.2.1).mono ?_); (focus (exact HK.out.1; done)); rintro e wg ⟨rfl, og, hbw_g⟩; have HGm := Lib.hid hbw_g; clear og hbw_g)
  have Bg := Lib.hid (HK.out.2.2.1.trans (HGm.out.below.mono hzw))
  have OYg := Lib.hid (And.intro (Betw.grid HK.out.2.1 HGm.out (Nat.le_refl _)) HK.out.2.2.2.2)
  clear HK HGm
  have hzg := Bg.out.size
  have hyl := OYg.out.1.lt
  go_wp2_with (go_at_call 36; (with_reducible refine (markGs (1 + (gsum A : Int)) (by omega) (by omega) wb.heap.size wy.heap.size n _ _ by_ B _ ?_ HN.out.2 hnn hr1.out OYg.out.2).mono ?_); (focus (exact OYg.out.1; done)); rintro e wr ⟨rfl, og, hbw_g⟩; have HY := Lib.hid hbw_g; clear og hbw_g)
  have Br := Lib.hid (Bg.out.trans (HY.out.below.mono (by omega)))
  have hzr := Br.out.size
  clear Bg HY OYg
  go_wp2_with ((go_at_call 34; (with_reducible refine (eqG_nil _ _ _ _ _).mono ?_); rintro e wh ⟨rfl, hb_wh⟩; have hs_wh := hb_wh.size; (try simp at hs_wh)))
  go_wp2_with (go_at_call 36; (with_reducible refine (markG_nil _ _ _).mono ?_); rintro e w' ⟨rfl, rfl⟩)
  go_wp2_with (go_at_call 37; (with_reducible refine (heldG_nil _ _ _).mono ?_); rintro e w' ⟨rfl, rfl⟩)
  go_wp2_with ((go_at_call 32; (with_reducible refine (toG k c p A _ ?_ HN.out.1 hk hr0.out).mono ?_); (focus ((exact (H.out.1.below Br.out).below (by repeat (first | assumption | exact Below.refl _ _ | (refine below_chain ?_ (by assumption) (by first | omega | (simp <;> omega) | simp)) | (refine Below.alloc ?_ (by first | omega | (simp <;> omega) | simp) _) | (apply below_drewN) | (apply below_drew) | (refine Below.setCell ?_ (by first | omega | (simp <;> omega) | simp) _)))); done)); rintro e wj ⟨bj, rfl, oj, hb_wj⟩; have hs_wj := hb_wj.size; (try simp at hs_wj)))
  have OJ := Lib.hid oj
  clear oj
  go_wp2_with ((go_at_call 32; (with_reducible refine (toG n d q B _ ?_ HN.out.2 hnn hr1.out).mono ?_); (focus ((exact (H.out.2.below Br.out).below (by repeat (first | assumption | exact Below.refl _ _ | (refine below_chain ?_ (by assumption) (by first | omega | (simp <;> omega) | simp)) | (refine Below.alloc ?_ (by first | omega | (simp <;> omega) | simp) _) | (apply below_drewN) | (apply below_drew) | (refine Below.setCell ?_ (by first | omega | (simp <;> omega) | simp) _)))); done)); rintro e wk ⟨bk, rfl, ok, hb_wk⟩; have hs_wk := hb_wk.size; (try simp at hs_wk)))
  have OK := Lib.hid ok
  clear ok
  go_wp2_with ((go_at_call 20; (with_reducible refine (iT_no _ _ _ _ _ _ A B _ ?_ ?_ HN.out.1 HN.out.2 hk3 hn3 ho0.out).mono ?_); (focus ((exact OJ.out.read.below (by repeat (first | assumption | exact Below.refl _ _ | (refine below_chain ?_ (by assumption) (by first | omega | (simp <;> omega) | simp)) | (refine Below.alloc ?_ (by first | omega | (simp <;> omega) | simp) _) | (apply below_drewN) | (apply below_drew) | (refine Below.setCell ?_ (by first | omega | (simp <;> omega) | simp) _)))); done)); (focus ((exact OK.out.read); done)); rintro e wl ⟨⟨ql, dl, rfl⟩, hb_wl⟩; have hs_wl := hb_wl.size; (try simp at hs_wl)))
  go_wp2_with ((go_at_call 34; (with_reducible refine (eqG_nil _ _ _ _ _).mono ?_); rintro e wn ⟨rfl, hb_wn⟩; have hs_wn := hb_wn.size; (try simp at hs_wn)))
  go_wp2_with (go_at_call 37; (with_reducible refine (heldG_nil _ _ _).mono ?_); rintro e w' ⟨rfl, rfl⟩)
  go_ret
  exact ⟨rfl, Br.out.trans ((show Below wr.heap.size wr wn from (by repeat (first | assumption | exact Below.refl _ _ | (refine below_chain ?_ (by assumption) (by first | omega | (simp <;> omega) | simp)) | (refine Below.alloc ?_ (by first | omega | (simp <;> omega) | simp) _) | (apply below_drewN) | (apply below_drew) | (refine Below.setCell ?_ (by first | omega | (simp <;> omega) | simp) _)))).mono hzr)⟩

set_option maxHeartbeats 8000000 in
set_option maxRecDepth 100000 in
theorem walk_yes (k : Nat) (w : World) (p : Option Addr) (c : Nat) (A : List (List Int)) (h : GRead w p A) (q : Option Addr) (d : Nat) (B : List (List Int)) (hh : GRead w q B) (hL : A.length = k) (hX : B.length = k) (hok : tmsOk A B) :
    Calls Try.prog 11 #[.slice p k c, .slice q k d] w fun e w' => e = .returned (.bool true) ∧ Below w.heap.size w w' := by
  have hk5 : k ≤ 5 := by have := (matOk_true.1 hok.1).2.1; omega
  have hr : ∀ r ∈ A, r.length ≤ 1048576 := fun r hr => by have := ((matOk_true.1 hok.1).2.2 r hr).1; omega
  have hs : ∀ r ∈ B, r.length ≤ 1048576 := fun r hr => by have := ((matOk_true.1 hok.2.1).2.2 r hr).1; omega
  obtain ⟨M, hM⟩ : ∃ M, mkL k (mul k (ent A) (ent B)) = M := ⟨_, rfl⟩
  have c1 := fun (k' d' : Nat) p q w h hq => Lib.hid (sT_yes k k' d' p q A B w h hq hL hX hok)
  have c2 := fun (k' d' : Nat) p q w h hq => Lib.hid (iT_yes k k' d' p q A B w h hq hL hX hok)
  rw [hM] at c1 c2
  have hMs : Sq k M := by rw [← hM]; exact mkL_sq
  have hMr : ∀ r ∈ M, r.length ≤ 1048576 := fun r hr => by rw [hMs.2 r hr]; omega
  have hMl := hMs.1
  have hgs : gsum A ≤ 1099511627776 := by have := gsum_small (by omega) hr A.length; rwa [List.take_length] at this
  have hgs2 : gsum B ≤ 1099511627776 := by have := gsum_small (by omega) hs B.length; rwa [List.take_length] at this
  have hgM : gsum M ≤ 1099511627776 := by have := gsum_small (by omega) hMr M.length; rwa [List.take_length] at this
  have H := Lib.hid (And.intro h hh)
  have HL := Lib.hid (And.intro hL (And.intro hX (And.intro hMl (And.intro hr (And.intro hs hMr)))))
  have hk1 : k ≤ 1048576 := by omega
  have hk3 : k ≤ 4000000000000000000 := by omega
  clear h hh hL hX hMl hMs hMr hr hs hok hM
  go_enter Try.func11, Try.ntmps11
  go_upto_region 3 with (go_at_call 30; (with_reducible refine (szG_at HL.out.1 c p 1048576 _ H.out.1 (by omega) (fun r hr => by have := HL.out.2.2.2.1 r hr; omega) (by omega) (by omega)).mono ?_); rintro e w' ⟨u, rfl, rfl, hu1, hu2⟩)
  clear hu2
  by_cases hu : u < 0
  · go_wp2_with fail
    go_ret
    exact ⟨rfl, Below.refl _ _⟩
  go_upto_region 6 with (go_at_call 30; (with_reducible refine (szG_at HL.out.2.1 d q u _ H.out.2 (by omega) (fun r hr => by have := HL.out.2.2.2.2.1 r hr; omega) (by omega) (by omega)).mono ?_); rintro e w' ⟨u2, rfl, rfl, hu3, hu4⟩)
  clear hu4
  by_cases hu' : u2 < 0
  · go_wp2_with fail
    go_ret
    exact ⟨rfl, Below.refl _ _⟩
  go_wp2_with ((go_at_call 32; (with_reducible refine (toG k c p A _ ?_ HL.out.1 hk1 HL.out.2.2.2.1).mono ?_); (focus ((exact H.out.1); done)); rintro e wa ⟨ba, rfl, oa, hb_wa⟩; have hs_wa := hb_wa.size; (try simp at hs_wa)))
  have OA := Lib.hid oa
  clear oa
  go_wp2_with ((go_at_call 32; (with_reducible refine (toG k d q B _ ?_ HL.out.2.1 hk1 HL.out.2.2.2.2.1).mono ?_); (focus ((exact H.out.2.below (by repeat (first | assumption | exact Below.refl _ _ | (refine below_chain ?_ (by assumption) (by first | omega | (simp <;> omega) | simp)) | (refine Below.alloc ?_ (by first | omega | (simp <;> omega) | simp) _) | (apply below_drewN) | (apply below_drew) | (refine Below.setCell ?_ (by first | omega | (simp <;> omega) | simp) _)))); done)); rintro e wx ⟨bx, rfl, ox, hb_wx⟩; have hs_wx := hb_wx.size; (try simp at hs_wx)))
  have OX := Lib.hid ox
  clear ox
  go_wp2_with ((go_at_call 21; (with_reducible refine ((c1 _ _ _ _ _ ?_ ?_).out).mono ?_); (focus ((exact OA.out.read.below (by repeat (first | assumption | exact Below.refl _ _ | (refine below_chain ?_ (by assumption) (by first | omega | (simp <;> omega) | simp)) | (refine Below.alloc ?_ (by first | omega | (simp <;> omega) | simp) _) | (apply below_drewN) | (apply below_drew) | (refine Below.setCell ?_ (by first | omega | (simp <;> omega) | simp) _)))); done)); (focus ((exact OX.out.read); done)); rintro e ws ⟨gs, cs, bs, rfl, os, hb_ws⟩; have hs_ws := hb_ws.size; (try simp at hs_ws)))
  have OS := Lib.hid os
  clear os
  go_wp2_with ((go_at_call 32; (with_reducible refine (toG k c p A _ ?_ HL.out.1 hk1 HL.out.2.2.2.1).mono ?_); (focus ((exact H.out.1.below (by repeat (first | assumption | exact Below.refl _ _ | (refine below_chain ?_ (by assumption) (by first | omega | (simp <;> omega) | simp)) | (refine Below.alloc ?_ (by first | omega | (simp <;> omega) | simp) _) | (apply below_drewN) | (apply below_drew) | (refine Below.setCell ?_ (by first | omega | (simp <;> omega) | simp) _)))); done)); rintro e wb ⟨bb, rfl, ob, hb_wb⟩; have hs_wb := hb_wb.size; (try simp at hs_wb)))
  have OB := Lib.hid ob
  clear ob
  go_wp2_with ((go_at_call 32; (with_reducible refine (toG k d q B _ ?_ HL.out.2.1 hk1 HL.out.2.2.2.2.1).mono ?_); (focus ((exact H.out.2.below (by repeat (first | assumption | exact Below.refl _ _ | (refine below_chain ?_ (by assumption) (by first | omega | (simp <;> omega) | simp)) | (refine Below.alloc ?_ (by first | omega | (simp <;> omega) | simp) _) | (apply below_drewN) | (apply below_drew) | (refine Below.setCell ?_ (by first | omega | (simp <;> omega) | simp) _)))); done)); rintro e wy ⟨by_, rfl, oy, hb_wy⟩; have hs_wy := hb_wy.size; (try simp at hs_wy)))
  have OY := Lib.hid oy
  clear oy
  go_wp2_with ((go_at_call 20; (with_reducible refine ((c2 _ _ _ _ _ ?_ ?_).out).mono ?_); (focus ((exact OB.out.read.below (by repeat (first | assumption | exact Below.refl _ _ | (refine below_chain ?_ (by assumption) (by first | omega | (simp <;> omega) | simp)) | (refine Below.alloc ?_ (by first | omega | (simp <;> omega) | simp) _) | (apply below_drewN) | (apply below_drew) | (refine Below.setCell ?_ (by first | omega | (simp <;> omega) | simp) _)))); done)); (focus ((exact OY.out.read); done)); rintro e wi ⟨gi, ci, bi, rfl, oi, hb_wi⟩; have hs_wi := hb_wi.size; (try simp at hs_wi)))
  have OI := Lib.hid oi
  clear oi
  go_wp2_with ((go_at_call 34; (with_reducible refine (eqG_at HL.out.2.2.1 _ _ _ _ _ ?_ ?_ hk1 HL.out.2.2.2.2.2).mono ?_); (focus ((exact OI.out.read); done)); (focus ((exact OS.out.read.below (by repeat (first | assumption | exact Below.refl _ _ | (refine below_chain ?_ (by assumption) (by first | omega | (simp <;> omega) | simp)) | (refine Below.alloc ?_ (by first | omega | (simp <;> omega) | simp) _) | (apply below_drewN) | (apply below_drew) | (refine Below.setCell ?_ (by first | omega | (simp <;> omega) | simp) _)))); done)); rintro e we ⟨rfl, hb_we⟩; have hs_we := hb_we.size; (try simp at hs_we)))
  go_wp2_with ((go_at_call 32; (with_reducible refine (toG k c p A _ ?_ HL.out.1 hk1 HL.out.2.2.2.1).mono ?_); (focus ((exact H.out.1.below (by repeat (first | assumption | exact Below.refl _ _ | (refine below_chain ?_ (by assumption) (by first | omega | (simp <;> omega) | simp)) | (refine Below.alloc ?_ (by first | omega | (simp <;> omega) | simp) _) | (apply below_drewN) | (apply below_drew) | (refine Below.setCell ?_ (by first | omega | (simp <;> omega) | simp) _)))); done)); rintro e wc ⟨bc, rfl, oc, hb_wc⟩; have hs_wc := hb_wc.size; (try simp at hs_wc)))
  have OC := Lib.hid oc
  clear oc
  go_wp2_with ((go_at_call 34; (with_reducible refine (eqG_at HL.out.1 _ _ _ _ _ ?_ ?_ hk1 HL.out.2.2.2.1).mono ?_); (focus ((exact OB.out.read.below (by repeat (first | assumption | exact Below.refl _ _ | (refine below_chain ?_ (by assumption) (by first | omega | (simp <;> omega) | simp)) | (refine Below.alloc ?_ (by first | omega | (simp <;> omega) | simp) _) | (apply below_drewN) | (apply below_drew) | (refine Below.setCell ?_ (by first | omega | (simp <;> omega) | simp) _)))); done)); (focus ((exact OC.out.read); done)); rintro e wf ⟨rfl, hb_wf⟩; have hs_wf := hb_wf.size; (try simp at hs_wf)))
  go_wp2_with ((go_at_call 32; (with_reducible refine (toG k d q B _ ?_ HL.out.2.1 hk1 HL.out.2.2.2.2.1).mono ?_); (focus ((exact H.out.2.below (by repeat (first | assumption | exact Below.refl _ _ | (refine below_chain ?_ (by assumption) (by first | omega | (simp <;> omega) | simp)) | (refine Below.alloc ?_ (by first | omega | (simp <;> omega) | simp) _) | (apply below_drewN) | (apply below_drew) | (refine Below.setCell ?_ (by first | omega | (simp <;> omega) | simp) _)))); done)); rintro e wz ⟨bz, rfl, oz, hb_wz⟩; have hs_wz := hb_wz.size; (try simp at hs_wz)))
  have OZ := Lib.hid oz
  clear oz
  go_wp2_with ((go_at_call 34; (with_reducible refine (eqG_at HL.out.2.1 _ _ _ _ _ ?_ ?_ hk1 HL.out.2.2.2.2.1).mono ?_); (focus ((exact OY.out.read.below (by repeat (first | assumption | exact Below.refl _ _ | (refine below_chain ?_ (by assumption) (by first | omega | (simp <;> omega) | simp)) | (refine Below.alloc ?_ (by first | omega | (simp <;> omega) | simp) _) | (apply below_drewN) | (apply below_drew) | (refine Below.setCell ?_ (by first | omega | (simp <;> omega) | simp) _)))); done)); (focus ((exact OZ.out.read); done)); rintro e wv ⟨rfl, hb_wv⟩; have hs_wv := hb_wv.size; (try simp at hs_wv)))
  have hBi : Below wi.heap.size wi wv := (by repeat (first | assumption | exact Below.refl _ _ | (refine below_chain ?_ (by assumption) (by first | omega | (simp <;> omega) | simp)) | (refine Below.alloc ?_ (by first | omega | (simp <;> omega) | simp) _) | (apply below_drewN) | (apply below_drew) | (refine Below.setCell ?_ (by first | omega | (simp <;> omega) | simp) _)))
  have hBy : Below wy.heap.size wy wv := (by repeat (first | assumption | exact Below.refl _ _ | (refine below_chain ?_ (by assumption) (by first | omega | (simp <;> omega) | simp)) | (refine Below.alloc ?_ (by first | omega | (simp <;> omega) | simp) _) | (apply below_drewN) | (apply below_drew) | (refine Below.setCell ?_ (by first | omega | (simp <;> omega) | simp) _)))
  have hBb : Below wb.heap.size wb wv := (by repeat (first | assumption | exact Below.refl _ _ | (refine below_chain ?_ (by assumption) (by first | omega | (simp <;> omega) | simp)) | (refine Below.alloc ?_ (by first | omega | (simp <;> omega) | simp) _) | (apply below_drewN) | (apply below_drew) | (refine Below.setCell ?_ (by first | omega | (simp <;> omega) | simp) _)))
  have hBs : Below ws.heap.size ws wv := (by repeat (first | assumption | exact Below.refl _ _ | (refine below_chain ?_ (by assumption) (by first | omega | (simp <;> omega) | simp)) | (refine Below.alloc ?_ (by first | omega | (simp <;> omega) | simp) _) | (apply below_drewN) | (apply below_drew) | (refine Below.setCell ?_ (by first | omega | (simp <;> omega) | simp) _)))
  have hBw : Below w.heap.size w ws := (by repeat (first | assumption | exact Below.refl _ _ | (refine below_chain ?_ (by assumption) (by first | omega | (simp <;> omega) | simp)) | (refine Below.alloc ?_ (by first | omega | (simp <;> omega) | simp) _) | (apply below_drewN) | (apply below_drew) | (refine Below.setCell ?_ (by first | omega | (simp <;> omega) | simp) _)))
  have hzw := hBw.size
  have hzb : ws.heap.size ≤ wb.heap.size := hs_wb
  have hzy : wb.heap.size ≤ wy.heap.size := hs_wy
  have hzi : wy.heap.size ≤ wi.heap.size := hs_wi
  have hgsl := OS.out.lt
  have HK := Lib.hid (And.intro (OB.out.below hBb) (And.intro (OY.out.below hBy) (And.intro (hBw.trans (hBs.mono hzw)) (And.intro (OI.out.below hBi) (OS.out.below hBs)))))
  have HZ := Lib.hid (And.intro (fun (i b c : Nat) (h : bb[i]? = some (b, c)) => OB.out.z i b c h) (And.intro (fun (i b c : Nat) (h : by_[i]? = some (b, c)) => OY.out.z i b c h) (And.intro (fun (i b c : Nat) (h : bi[i]? = some (b, c)) => OI.out.z i b c h) (fun (i b c : Nat) (h : bs[i]? = some (b, c)) => OS.out.z i b c h))))
  clear hb_wa hb_wx hb_ws hb_wb hb_wy hb_wi hb_we hb_wc hb_wf hb_wz hb_wv OA OC OX OZ OB OY OI OS hBy hBb hBw hBs hBi
  go_wp2_with (go_at_call 36; (with_reducible refine (markG ws.heap.size wb.heap.size k _ _ bb A _ ?_ HL.out.1 hk1 HL.out.2.2.2.1 HZ.out.1).mono ?_); (focus (exact HK.out.1; done)); rintro e wg ⟨rfl, og, hbw_g⟩; have HGm := Lib.hid hbw_g; clear og hbw_g)
  have Bg := Lib.hid (HK.out.2.2.1.trans (HGm.out.below.mono hzw))
  have OYg := Lib.hid (And.intro (Betw.grid HK.out.2.1 HGm.out (Nat.le_refl _)) (And.intro (Betw.grid HK.out.2.2.2.1 HGm.out hzy) (HK.out.2.2.2.2.under HGm.out.below hgsl HZ.out.2.2.2)))
  clear HK HGm
  have hzg := Bg.out.size
  have hyl := OYg.out.1.lt
  go_wp2_with (go_at_call 36; (with_reducible refine (markGs (1 + (gsum A : Int)) (by omega) (by omega) wb.heap.size wy.heap.size k _ _ by_ B _ ?_ HL.out.2.1 hk1 HL.out.2.2.2.2.1 HZ.out.2.1).mono ?_); (focus (exact OYg.out.1; done)); rintro e wr ⟨rfl, og, hbw_g⟩; have HY := Lib.hid hbw_g; clear og hbw_g)
  have Br := Lib.hid (Bg.out.trans (HY.out.below.mono (by omega)))
  have hzr := Br.out.size
  have OR := Lib.hid (And.intro (Betw.grid OYg.out.2.1 HY.out (Nat.le_refl _)) (OYg.out.2.2.under (HY.out.below.mono hzb) hgsl HZ.out.2.2.2))
  clear Bg HY OYg
  have hgir := OR.out.1.lt
  have hgsr := OR.out.2.lt
  go_wp2_with ((go_at_call 34; (with_reducible refine (eqG_at HL.out.2.2.1 _ _ _ _ _ ?_ ?_ hk1 HL.out.2.2.2.2.2).mono ?_); (focus ((exact OR.out.1.read); done)); (focus ((exact OR.out.2.read); done)); rintro e wh ⟨rfl, hb_wh⟩; have hs_wh := hb_wh.size; (try simp at hs_wh)))
  have OH := Lib.hid (And.intro (OR.out.1.below hb_wh) (And.intro (OR.out.2.below hb_wh) (Br.out.trans (hb_wh.mono hzr))))
  clear OR Br hb_wh
  have hzh := OH.out.2.2.size
  go_wp2_with (go_at_call 36; (with_reducible refine (markG wy.heap.size wi.heap.size k _ _ bi M _ ?_ HL.out.2.2.1 hk1 HL.out.2.2.2.2.2 HZ.out.2.2.1).mono ?_); (focus (exact OH.out.1; done)); rintro e wm ⟨rfl, om, hbw_m⟩; have HM := Lib.hid (And.intro om hbw_m); clear om hbw_m)
  have OM := Lib.hid (And.intro HM.out.1 (And.intro (OH.out.2.1.under (HM.out.2.below.mono (show ws.heap.size ≤ wy.heap.size by omega)) hgsl HZ.out.2.2.2) (OH.out.2.2.trans (HM.out.2.below.mono (show w.heap.size ≤ wy.heap.size by omega)))))
  clear HM OH
  have hzm := OM.out.2.2.size
  have hgim := OM.out.1.lt
  have hgsm := OM.out.2.1.lt
  go_wp2_with (go_at_call 37; (with_reducible refine (heldG k _ _ M _ ?_ HL.out.2.2.1 hk1 HL.out.2.2.2.2.2).mono ?_); (focus (exact OM.out.1.read; done)); rintro e w' ⟨rfl, rfl⟩)
  go_wp2_with ((go_at_call 32; (with_reducible refine (toG k c p A _ ?_ HL.out.1 hk1 HL.out.2.2.2.1).mono ?_); (focus ((exact H.out.1.below OM.out.2.2); done)); rintro e wj ⟨bj, rfl, oj, hb_wj⟩; have hs_wj := hb_wj.size; (try simp at hs_wj)))
  have OJ := Lib.hid oj
  clear oj
  go_wp2_with ((go_at_call 32; (with_reducible refine (toG k d q B _ ?_ HL.out.2.1 hk1 HL.out.2.2.2.2.1).mono ?_); (focus ((exact (H.out.2.below OM.out.2.2).below (by repeat (first | assumption | exact Below.refl _ _ | (refine below_chain ?_ (by assumption) (by first | omega | (simp <;> omega) | simp)) | (refine Below.alloc ?_ (by first | omega | (simp <;> omega) | simp) _) | (apply below_drewN) | (apply below_drew) | (refine Below.setCell ?_ (by first | omega | (simp <;> omega) | simp) _)))); done)); rintro e wk ⟨bk, rfl, ok, hb_wk⟩; have hs_wk := hb_wk.size; (try simp at hs_wk)))
  have OK := Lib.hid ok
  clear ok
  go_wp2_with ((go_at_call 20; (with_reducible refine ((c2 _ _ _ _ _ ?_ ?_).out).mono ?_); (focus ((exact OJ.out.read.below (by repeat (first | assumption | exact Below.refl _ _ | (refine below_chain ?_ (by assumption) (by first | omega | (simp <;> omega) | simp)) | (refine Below.alloc ?_ (by first | omega | (simp <;> omega) | simp) _) | (apply below_drewN) | (apply below_drew) | (refine Below.setCell ?_ (by first | omega | (simp <;> omega) | simp) _)))); done)); (focus ((exact OK.out.read); done)); rintro e wl ⟨gl, cl, bl, rfl, ol, hb_wl⟩; have hs_wl := hb_wl.size; (try simp at hs_wl)))
  have OL := Lib.hid ol
  clear ol
  go_wp2_with ((go_at_call 34; (with_reducible refine (eqG_at HL.out.2.2.1 _ _ _ _ _ ?_ ?_ hk1 HL.out.2.2.2.2.2).mono ?_); (focus ((exact OL.out.read); done)); (focus ((exact OM.out.2.1.read.below (by repeat (first | assumption | exact Below.refl _ _ | (refine below_chain ?_ (by assumption) (by first | omega | (simp <;> omega) | simp)) | (refine Below.alloc ?_ (by first | omega | (simp <;> omega) | simp) _) | (apply below_drewN) | (apply below_drew) | (refine Below.setCell ?_ (by first | omega | (simp <;> omega) | simp) _)))); done)); rintro e wn ⟨rfl, hb_wn⟩; have hs_wn := hb_wn.size; (try simp at hs_wn)))
  go_wp2_with (go_at_call 37; (with_reducible refine (heldG k _ _ M _ ?_ HL.out.2.2.1 hk1 HL.out.2.2.2.2.2).mono ?_); (focus (exact OM.out.1.read.below (by repeat (first | assumption | exact Below.refl _ _ | (refine below_chain ?_ (by assumption) (by first | omega | (simp <;> omega) | simp)) | (refine Below.alloc ?_ (by first | omega | (simp <;> omega) | simp) _) | (apply below_drewN) | (apply below_drew) | (refine Below.setCell ?_ (by first | omega | (simp <;> omega) | simp) _))); done)); rintro e w' ⟨rfl, rfl⟩)
  go_ret
  exact ⟨rfl, OM.out.2.2.trans ((show Below wm.heap.size wm wn from (by repeat (first | assumption | exact Below.refl _ _ | (refine below_chain ?_ (by assumption) (by first | omega | (simp <;> omega) | simp)) | (refine Below.alloc ?_ (by first | omega | (simp <;> omega) | simp) _) | (apply below_drewN) | (apply below_drew) | (refine Below.setCell ?_ (by first | omega | (simp <;> omega) | simp) _)))).mono hzm)⟩
theorem walk (w : World) (p : Option Addr) (c : Nat) (A : List (List Int)) (h : GRead w p A) (hl : A.length ≤ 9223372036854775807 ∧ ∀ r ∈ A, r.length ≤ 9223372036854775807) (q : Option Addr) (d : Nat) (B : List (List Int)) (hh : GRead w q B) (hlh : B.length ≤ 9223372036854775807 ∧ ∀ r ∈ B, r.length ≤ 9223372036854775807) :
    Calls Try.prog 11 #[.slice p A.length c, .slice q B.length d] w fun e w' => e = .returned (.bool true) ∧ Below w.heap.size w w' := by
  by_cases hok : tmsOk A B
  · have := walk_yes A.length w p c A h q d B hh rfl hok.2.2.1.symm hok
    rw [← hok.2.2.1]; exact this
  · exact walk_no w p c A h hl q d B hh hlh hok

set_option maxRecDepth 100000 in
theorem lifted (os : Os) (started : os.Started) (H : Type) (enc : TypeId × Value → H) :
    ReturnsInHanded {} Try.checked os 11 .any (Rows.fnExactMatTimesSpec.pre6 enc Try.prog Try.f11 Rows.fnExactMatTimesRow.domain false) (Rows.fnExactMatTimesSpec.post enc Try.prog Try.f11 false true false false) := by
  refine returnsInHanded_of_change (C := Try.checked) own started (by kernel_rfl) Try.func11
    (ChangeSpec.witness6 (enc := enc) (C := Try.checked) false ⟨#[], #[.slice none 0 0, .slice none 0 0], []⟩ 8 (by kernel_rfl) (by kernel_rfl) (by kernel_rfl) (by kernel_rfl)) ?_
  intro W base args ds gs before hval0 hW hcnd _
  have hval : ∀ (j : Nat) t v, Try.f11.params[j]? = some t → args[j]? = some v → Value.okWide Try.prog W .any base t v := hval0
  have hW' := hW
  obtain ⟨p, q, hA0, hV, rfl, hfz, hnd⟩ := hW
  have hA : DataW.TrodAll enc Try.prog W 0 (fun _ => true) true Try.f11.params.toList args.toList ds p := hA0
  rw [Try.params11] at hA hval
  obtain ⟨v0, vs0, d0, ds0, p0, q0, hargs, rfl, rfl, h0, r0⟩ := trodAll_cons hA
  obtain ⟨v1, vs1, d1, ds1, p1, q1, rfl, rfl, rfl, h1, r1⟩ := trodAll_cons r0
  obtain ⟨rfl, rfl, rfl⟩ := trodAll_nil r1
  obtain rfl : args = #[v0, v1] := by cases args; simp_all
  obtain ⟨rfl, rfl⟩ := trodVars_none hV
  obtain ⟨a0, len0, cap0, rfl⟩ := okWide_slice Try.underlying23 (hval 0 23 v0 rfl rfl)
  have k0 := h0
  have lt0 : ∀ x ∈ p0, x.block < W.heap.size := by obtain ⟨m, hm⟩ := k0; exact DataW.trod_lt m _ _ _ hm
  obtain ⟨x0, e0, r0', l0⟩ := open_grid h0
  subst e0
  obtain ⟨a1, len1, cap1, rfl⟩ := okWide_slice Try.underlying23 (hval 1 23 v1 rfl rfl)
  have k1 := h1
  have lt1 : ∀ x ∈ p1, x.block < W.heap.size := by obtain ⟨m, hm⟩ := k1; exact DataW.trod_lt m _ _ _ hm
  obtain ⟨x1, e1, r1', l1⟩ := open_grid h1
  subst e1
  clear hA0 hval0
  refine (walk W a0 cap0 x0 r0' l0 a1 cap1 x1 r1' l1).mono fun e W' ⟨he, bel⟩ => ?_
  subst he
  exact ⟨_, rfl, _, _, _, [], _, [], hW', trodAll_mk1 (shut_bool Try.underlying4 _), (trodAll_cons_mk (Below.trod laidOut (by kernel_rfl) (of_decide_eq_true (by kernel_rfl)) k0 bel lt0) (trodAll_cons_mk (Below.trod laidOut (by kernel_rfl) (of_decide_eq_true (by kernel_rfl)) k1 bel lt1) trodAll_mk0)), rfl, bel.frame _, fun h => by cases h⟩

theorem over : Rows.fnExactMatTimesRow.holds Try.pinned (OpenSpec.ofChange Rows.fnExactMatTimesSpec) :=
  OpenClaim.holds_of_wide 11 Try.f11 rfl rfl rfl rfl rfl rfl rfl ⟨rfl, rfl, rfl, rfl, rfl⟩ rfl rfl rfl rfl rfl (by kernel_rfl) Try.func11 (by kernel_rfl)
    (of_decide_eq_true (by kernel_rfl)) (by unfold Func.isWrapper; first | (rw [if_pos (by decide +kernel)]; kernel_rfl) | (rw [if_neg (by decide +kernel)]; exact ⟨rfl, rfl⟩))
    (fun os started H enc _ => lifted os started H enc)

theorem proved : Rows.FnExactMatTimesSaid :=
  over
end Go.Proofs.Ythpfhbogpnhgmaa.fnExactMatTimes

