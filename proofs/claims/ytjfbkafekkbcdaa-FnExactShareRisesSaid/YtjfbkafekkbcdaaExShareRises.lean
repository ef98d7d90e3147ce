/-
  For every two lists of numbers the law FnExactShareRises returns true: impl.ShareRises answers the rises with shares added as the reference model does, in every field, leaves its arguments as they were, and its answer owns its memory. No condition: every list is taken.
-/
import Derived.Test.YtjfbkafekkbcdaaNm
import Derived.Test.YtjfbkafekkbcdaaSi
import Derived.Test.YtjfbkafekkbcdaaShOpen
namespace Go.Proofs.Ytjfbkafekkbcdaa.fnExactShareRises
open Go.ChangeShapes Go.WideShapes Go.ChangeAt Go.RowKit
set_option linter.unusedVariables false

theorem below_grew {B g : Nat} {a w w' : World} (h : Below B a w) (hg : grew w w' g) (hB : B ≤ g) (hs : B ≤ w.heap.size) : Below B a w' := below_gr h hg.1 hB hs
theorem toInts_n {n : Nat} {zs : List Int} (hn : zs.length = n) (p : Option Addr) (c : Nat) (w : World) (hp : Ints w p zs) (hl : n ≤ 1048576) :
    Calls Try.prog 33 #[.slice p n c] w fun e w' => e = .returned (.slice (some ⟨w.heap.size, 0, none⟩) n n) ∧ Own w' w.heap.size 3 1 n n zs ∧ Below w.heap.size w w' := by subst hn; exact toInts p c zs w hp hl
theorem eqInts_n {n : Nat} {zs : List Int} (hn : zs.length = n) (p q : Option Addr) (c d : Nat) (w : World) (hp : Ints w p zs) (hq : Ints w q zs) (hl : n ≤ 4000000000000000000) :
    Calls Try.prog 34 #[.slice p n c, .slice q n d] w fun e w' => e = .returned (.bool true) ∧ Below w.heap.size w w' := by subst hn; exact eqInts p q c d zs w hp hq hl
theorem eqInts_nil (p q : Option Addr) (c d : Nat) (w : World) :
    Calls Try.prog 34 #[.slice p 0 c, .slice q 0 d] w fun e w' => e = .returned (.bool true) ∧ Below w.heap.size w w' := eqInts p q c d [] w (.inl rfl) (.inl rfl) (by simp)
set_option maxHeartbeats 1000000 in
theorem markAny (s : Int) (h0 : 0 ≤ s) (h1 : s ≤ 1000000000) (g n cap : Nat) (xs : List Int) (w : World) (hp : Own w g 3 1 n cap xs) (hl : n ≤ 1048576) :
    Calls Try.prog 35 #[.slice (some ⟨g, 0, none⟩) n cap, .int .i64 s] w fun e w' => e = .returned (.int .i64 (s + n)) ∧ grew w w' g := by
  have h0' := Lib.hid hp
  clear hp
  go_enter Try.func35, Try.ntmps35
  go_wp2_with fail
  go_loopw [1, 5] (fun m i wr => ∃ (k : Nat) (ys : List Int), k ≤ n ∧ i = .int .i64 k ∧ m = .int .i64 (s + k) ∧ Own wr g 3 1 n cap ys ∧ grew w wr g) (fun _ i _ => n - (intOf i).toNat)
  case atStart => exact ⟨0, xs, Nat.zero_le _, rfl, by simp, h0'.out, grew.refl _ _⟩
  case round =>
    obtain ⟨k, ys, hk, rfl, rfl, how, hbr⟩ := hrel
    have hyl := how.len
    have HO := Lib.hid how
    have HG := Lib.hid hbr
    by_cases hlt : k < n
    · have hf := how.frozen k
      have hlo := how.lt
      have hcx := how.cells (i := k) (z := (ys[k]?).getD 0) (by rw [List.getElem?_eq_getElem (by omega)]; rfl)
      clear how hbr h0'
      go_wp2_with fail
      go_roundw
      case rel => exact ⟨k + 1, _, by omega, by go_num, by go_num, HO.out.set k _ (by omega), HG.out.set _ _⟩
      case measure => simp [intOf]; omega
    · have e : k = n := by omega
      subst e
      clear how hbr h0'
      go_wp2_with fail
      go_ret
      exact ⟨rfl, HG.out⟩

set_option maxHeartbeats 8000000 in
theorem walk_yes (w : World) (p : Option Addr) (c : Nat) (ls : List Int) (H : Hid (Ints w p ls)) (n1 : Nat) (hn1 : ls.length = n1) (q : Option Addr) (d : Nat) (ss : List Int) (HI : Hid (Ints w q ss)) (hn2 : ss.length = n1) (hr : risOk ls ss) :
    Calls Try.prog 13 #[.slice p n1 c, .slice q n1 d] w fun e w' => e = .returned (.bool true) ∧ Below w.heap.size w w' := by
  have h20 : n1 ≤ 20 := by have := (lenOk_true.1 hr.1).2.1; omega
  have h1l : n1 ≤ 1048576 := by omega
  have hl3 : ¬ (1048576 : Int) < (n1 : Int) := by omega
  have kS := fun w p q c d h hq => Lib.hid (sShareRises_yes n1 c d p q ls ss w h hq hn1 hr)
  have kI := fun w p q c d h hq => Lib.hid (iShareRises_yes n1 c d p q ls ss w h hq hn1 hr)
  have hLN : (rsh ls ss).length = n1 := by rw [rsh_len]; exact hn1
  generalize rsh ls ss = Z at kS kI hLN
  have hneg : ¬ (1 : Int) + (n1 : Int) + (n1 : Int) < 0 := by omega
  have hneg1 : ¬ (1 : Int) + (n1 : Int) < 0 := by omega
  have HN := Lib.hid (And.intro hn1 hn2)
  clear hr hn1 hn2
  go_enter Try.func13, Try.ntmps13
  go_wp2_with ((go_at_call 33; (with_reducible refine (toInts_n HN.out.1 p c _ ?_ h1l).mono ?_); (focus ((exact H.out.below (by repeat (first | assumption | exact Below.refl _ _ | (refine below_chain ?_ (by assumption) (by first | omega | (simp <;> omega) | simp)) | (refine Below.alloc ?_ (by first | omega | (simp <;> omega) | simp) _) | (apply below_drewN) | (apply below_drew) | (refine Below.setCell ?_ (by first | omega | (simp <;> omega) | simp) _)))); done)); rintro e wa ⟨rfl, oa, hb_wa⟩; have hs_wa := hb_wa.size; (try simp at hs_wa)))
  have OA := Lib.hid oa
  clear oa
  go_wp2_with ((go_at_call 33; (with_reducible refine (toInts_n HN.out.2 q d _ ?_ h1l).mono ?_); (focus ((exact HI.out.below (by repeat (first | assumption | exact Below.refl _ _ | (refine below_chain ?_ (by assumption) (by first | omega | (simp <;> omega) | simp)) | (refine Below.alloc ?_ (by first | omega | (simp <;> omega) | simp) _) | (apply below_drewN) | (apply below_drew) | (refine Below.setCell ?_ (by first | omega | (simp <;> omega) | simp) _)))); done)); rintro e wx ⟨rfl, ox, hb_wx⟩; have hs_wx := hb_wx.size; (try simp at hs_wx)))
  have OX := Lib.hid ox
  clear ox
  go_wp2_with ((go_at_call 27; (with_reducible refine ((kS _ _ _ _ _ ?_ ?_).out).mono ?_); (focus ((exact (OA.out.below (by repeat (first | assumption | exact Below.refl _ _ | (refine below_chain ?_ (by assumption) (by first | omega | (simp <;> omega) | simp)) | (refine Below.alloc ?_ (by first | omega | (simp <;> omega) | simp) _) | (apply below_drewN) | (apply below_drew) | (refine Below.setCell ?_ (by first | omega | (simp <;> omega) | simp) _)))).ints); done)); (focus ((exact OX.out.ints); done)); rintro e ws ⟨gs, cs, rfl, hgs, os, hb_ws⟩; have hs_ws := hb_ws.size; (try simp at hs_ws)))
  have OS := Lib.hid os
  have hls := os.lt
  clear os
  go_wp2_with ((go_at_call 33; (with_reducible refine (toInts_n HN.out.1 p c _ ?_ h1l).mono ?_); (focus ((exact H.out.below (by repeat (first | assumption | exact Below.refl _ _ | (refine below_chain ?_ (by assumption) (by first | omega | (simp <;> omega) | simp)) | (refine Below.alloc ?_ (by first | omega | (simp <;> omega) | simp) _) | (apply below_drewN) | (apply below_drew) | (refine Below.setCell ?_ (by first | omega | (simp <;> omega) | simp) _)))); done)); rintro e wb ⟨rfl, ob, hb_wb⟩; have hs_wb := hb_wb.size; (try simp at hs_wb)))
  have OB := Lib.hid ob
  have hlb := ob.lt
  clear ob
  go_wp2_with ((go_at_call 33; (with_reducible refine (toInts_n HN.out.2 q d _ ?_ h1l).mono ?_); (focus ((exact HI.out.below (by repeat (first | assumption | exact Below.refl _ _ | (refine below_chain ?_ (by assumption) (by first | omega | (simp <;> omega) | simp)) | (refine Below.alloc ?_ (by first | omega | (simp <;> omega) | simp) _) | (apply below_drewN) | (apply below_drew) | (refine Below.setCell ?_ (by first | omega | (simp <;> omega) | simp) _)))); done)); rintro e wy ⟨rfl, oy, hb_wy⟩; have hs_wy := hb_wy.size; (try simp at hs_wy)))
  have OY := Lib.hid oy
  have hly := oy.lt
  clear oy
  go_wp2_with ((go_at_call 26; (with_reducible refine ((kI _ _ _ _ _ ?_ ?_).out).mono ?_); (focus ((exact (OB.out.below (by repeat (first | assumption | exact Below.refl _ _ | (refine below_chain ?_ (by assumption) (by first | omega | (simp <;> omega) | simp)) | (refine Below.alloc ?_ (by first | omega | (simp <;> omega) | simp) _) | (apply below_drewN) | (apply below_drew) | (refine Below.setCell ?_ (by first | omega | (simp <;> omega) | simp) _)))).ints); done)); (focus ((exact OY.out.ints); done)); rintro e wi ⟨gi, ci, rfl, hgi, oi, hb_wi⟩; have hs_wi := hb_wi.size; (try simp at hs_wi)))
  have OI := Lib.hid oi
  have hli := oi.lt
  clear oi
  go_wp2_with ((go_at_call 34; (with_reducible refine (eqInts_n hLN _ _ _ _ _ ?_ ?_ (by omega)).mono ?_); (focus ((exact OI.out.ints); done)); (focus ((exact (OS.out.below (by repeat (first | assumption | exact Below.refl _ _ | (refine below_chain ?_ (by assumption) (by first | omega | (simp <;> omega) | simp)) | (refine Below.alloc ?_ (by first | omega | (simp <;> omega) | simp) _) | (apply below_drewN) | (apply below_drew) | (refine Below.setCell ?_ (by first | omega | (simp <;> omega) | simp) _)))).ints); done)); rintro e w1 ⟨rfl, hb_w1⟩; have hs_w1 := hb_w1.size; (try simp at hs_w1)))
  go_wp2_with ((go_at_call 33; (with_reducible refine (toInts_n HN.out.1 p c _ ?_ h1l).mono ?_); (focus ((exact H.out.below (by repeat (first | assumption | exact Below.refl _ _ | (refine below_chain ?_ (by assumption) (by first | omega | (simp <;> omega) | simp)) | (refine Below.alloc ?_ (by first | omega | (simp <;> omega) | simp) _) | (apply below_drewN) | (apply below_drew) | (refine Below.setCell ?_ (by first | omega | (simp <;> omega) | simp) _)))); done)); rintro e w2 ⟨rfl, oc, hb_w2⟩; have hs_w2 := hb_w2.size; (try simp at hs_w2)))
  have OC := Lib.hid oc
  clear oc
  go_wp2_with ((go_at_call 34; (with_reducible refine (eqInts_n HN.out.1 _ _ _ _ _ ?_ ?_ (by omega)).mono ?_); (focus ((exact (OB.out.below (by repeat (first | assumption | exact Below.refl _ _ | (refine below_chain ?_ (by assumption) (by first | omega | (simp <;> omega) | simp)) | (refine Below.alloc ?_ (by first | omega | (simp <;> omega) | simp) _) | (apply below_drewN) | (apply below_drew) | (refine Below.setCell ?_ (by first | omega | (simp <;> omega) | simp) _)))).ints); done)); (focus ((exact OC.out.ints); done)); rintro e w3 ⟨rfl, hb_w3⟩; have hs_w3 := hb_w3.size; (try simp at hs_w3)))
  go_wp2_with ((go_at_call 33; (with_reducible refine (toInts_n HN.out.2 q d _ ?_ h1l).mono ?_); (focus ((exact HI.out.below (by repeat (first | assumption | exact Below.refl _ _ | (refine below_chain ?_ (by assumption) (by first | omega | (simp <;> omega) | simp)) | (refine Below.alloc ?_ (by first | omega | (simp <;> omega) | simp) _) | (apply below_drewN) | (apply below_drew) | (refine Below.setCell ?_ (by first | omega | (simp <;> omega) | simp) _)))); done)); rintro e wz ⟨rfl, oz, hb_wz⟩; have hs_wz := hb_wz.size; (try simp at hs_wz)))
  have OZ := Lib.hid oz
  clear oz
  go_wp2_with ((go_at_call 34; (with_reducible refine (eqInts_n HN.out.2 _ _ _ _ _ ?_ ?_ (by omega)).mono ?_); (focus ((exact (OY.out.below (by repeat (first | assumption | exact Below.refl _ _ | (refine below_chain ?_ (by assumption) (by first | omega | (simp <;> omega) | simp)) | (refine Below.alloc ?_ (by first | omega | (simp <;> omega) | simp) _) | (apply below_drewN) | (apply below_drew) | (refine Below.setCell ?_ (by first | omega | (simp <;> omega) | simp) _)))).ints); done)); (focus ((exact OZ.out.ints); done)); rintro e wf ⟨rfl, hb_wf⟩; have hs_wf := hb_wf.size; (try simp at hs_wf)))
  have OB3 := Lib.hid (OB.out.below (w' := wf) (by repeat (first | assumption | exact Below.refl _ _ | (refine below_chain ?_ (by assumption) (by first | omega | (simp <;> omega) | simp)) | (refine Below.alloc ?_ (by first | omega | (simp <;> omega) | simp) _) | (apply below_drewN) | (apply below_drew) | (refine Below.setCell ?_ (by first | omega | (simp <;> omega) | simp) _))))
  have OY3 := Lib.hid (OY.out.below (w' := wf) (by repeat (first | assumption | exact Below.refl _ _ | (refine below_chain ?_ (by assumption) (by first | omega | (simp <;> omega) | simp)) | (refine Below.alloc ?_ (by first | omega | (simp <;> omega) | simp) _) | (apply below_drewN) | (apply below_drew) | (refine Below.setCell ?_ (by first | omega | (simp <;> omega) | simp) _))))
  have OI3 := Lib.hid (OI.out.below (w' := wf) (by repeat (first | assumption | exact Below.refl _ _ | (refine below_chain ?_ (by assumption) (by first | omega | (simp <;> omega) | simp)) | (refine Below.alloc ?_ (by first | omega | (simp <;> omega) | simp) _) | (apply below_drewN) | (apply below_drew) | (refine Below.setCell ?_ (by first | omega | (simp <;> omega) | simp) _))))
  have OS3 := Lib.hid (OS.out.below (w' := wf) (by repeat (first | assumption | exact Below.refl _ _ | (refine below_chain ?_ (by assumption) (by first | omega | (simp <;> omega) | simp)) | (refine Below.alloc ?_ (by first | omega | (simp <;> omega) | simp) _) | (apply below_drewN) | (apply below_drew) | (refine Below.setCell ?_ (by first | omega | (simp <;> omega) | simp) _))))
  have hB3 : Below w.heap.size w wf := (by repeat (first | assumption | exact Below.refl _ _ | (refine below_chain ?_ (by assumption) (by first | omega | (simp <;> omega) | simp)) | (refine Below.alloc ?_ (by first | omega | (simp <;> omega) | simp) _) | (apply below_drewN) | (apply below_drew) | (refine Below.setCell ?_ (by first | omega | (simp <;> omega) | simp) _)))
  have g1 : w.heap.size ≤ gs := by omega
  have g2 : gs < ws.heap.size := hls
  have g3 : wb.heap.size < gi := by omega
  have g4 : gi < wf.heap.size := by omega
  have g5 : w.heap.size ≤ ws.heap.size := by omega
  have g6 : w.heap.size ≤ wf.heap.size := by omega
  have g7 : ws.heap.size < wb.heap.size := by omega
  clear OC OZ OA OX OB OY OI OS hb_wa hb_wx hb_ws hb_wb hb_wy hb_wi hb_w1 hb_w2 hb_w3 hb_wz hb_wf
  go_wp2_with (go_at_call 35; (with_reducible refine (markInts _ _ _ _ _ OB3.out h1l).mono ?_); rintro e w4 ⟨rfl, om, hg4⟩; have hs4 := Nat.le_of_eq hg4.2; have hs4' := Nat.le_of_eq hg4.2.symm; have HG4 := Lib.hid hg4; clear hg4 om)
  have hB4 : Below w.heap.size w w4 := below_grew hB3 HG4.out (by omega) (by omega)
  have OY4 := Lib.hid (OY3.out.grown HG4.out.1 (by omega))
  have OI4 := Lib.hid (OI3.out.grown HG4.out.1 (by omega))
  have OS4 := Lib.hid (OS3.out.grown HG4.out.1 (by omega))
  clear OB3 OY3 OI3 OS3 hB3
  go_wp2_with (go_at_call 35; (with_reducible refine (markAny _ (by omega) (by omega) _ _ _ _ _ OY4.out h1l).mono ?_); rintro e w4b ⟨rfl, hg4⟩; have hs4b := Nat.le_of_eq hg4.2; have hs4b' := Nat.le_of_eq hg4.2.symm; have HG4b := Lib.hid hg4; clear hg4)
  have hB4b : Below w.heap.size w w4b := below_grew hB4 HG4b.out (by omega) (by omega)
  have OI4b := Lib.hid (OI4.out.grown HG4b.out.1 (by omega))
  have OS4b := Lib.hid (OS4.out.grown HG4b.out.1 (by omega))
  clear OY4 OI4 OS4 hB4
  go_wp2_with ((go_at_call 34; (with_reducible refine (eqInts_n hLN _ _ _ _ _ ?_ ?_ (by omega)).mono ?_); (focus ((exact OI4b.out.ints); done)); (focus ((exact OS4b.out.ints); done)); rintro e w5 ⟨rfl, hb_w5⟩; have hs_w5 := hb_w5.size; (try simp at hs_w5)))
  have OI5 := Lib.hid (OI4b.out.below (w' := w5) (by repeat (first | assumption | exact Below.refl _ _ | (refine below_chain ?_ (by assumption) (by first | omega | (simp <;> omega) | simp)) | (refine Below.alloc ?_ (by first | omega | (simp <;> omega) | simp) _) | (apply below_drewN) | (apply below_drew) | (refine Below.setCell ?_ (by first | omega | (simp <;> omega) | simp) _))))
  have OS5 := Lib.hid (OS4b.out.below (w' := w5) (by repeat (first | assumption | exact Below.refl _ _ | (refine below_chain ?_ (by assumption) (by first | omega | (simp <;> omega) | simp)) | (refine Below.alloc ?_ (by first | omega | (simp <;> omega) | simp) _) | (apply below_drewN) | (apply below_drew) | (refine Below.setCell ?_ (by first | omega | (simp <;> omega) | simp) _))))
  have hB5 : Below w.heap.size w w5 := (by repeat (first | assumption | exact Below.refl _ _ | (refine below_chain ?_ (by assumption) (by first | omega | (simp <;> omega) | simp)) | (refine Below.alloc ?_ (by first | omega | (simp <;> omega) | simp) _) | (apply below_drewN) | (apply below_drew) | (refine Below.setCell ?_ (by first | omega | (simp <;> omega) | simp) _)))
  clear OI4b OS4b hB4b hb_w5
  go_wp2_with (go_at_call 35; (with_reducible refine (markInts _ _ _ _ _ OI5.out (by omega)).mono ?_); rintro e w6 ⟨rfl, om, hg6⟩; have hs6 := Nat.le_of_eq hg6.2; have hs6' := Nat.le_of_eq hg6.2.symm; have HG6 := Lib.hid (And.intro hg6 om); clear hg6 om)
  have hB6 : Below w.heap.size w w6 := below_grew hB5 HG6.out.1 (by omega) (by omega)
  have OS6 := Lib.hid (OS5.out.grown HG6.out.1.1 (by omega))
  have OI6 := Lib.hid HG6.out.2
  clear OI5 OS5 hB5 HG6
  go_wp2_with (go_at_call 36; (with_reducible refine (heldInts _ _ _ _ _ OI6.out hLN (by omega)).mono ?_); rintro e w' ⟨rfl, rfl⟩)
  go_wp2_with ((go_at_call 33; (with_reducible refine (toInts_n HN.out.1 p c _ ?_ h1l).mono ?_); (focus ((exact H.out.below (by repeat (first | assumption | exact Below.refl _ _ | (refine below_chain ?_ (by assumption) (by first | omega | (simp <;> omega) | simp)) | (refine Below.alloc ?_ (by first | omega | (simp <;> omega) | simp) _) | (apply below_drewN) | (apply below_drew) | (refine Below.setCell ?_ (by first | omega | (simp <;> omega) | simp) _)))); done)); rintro e w7 ⟨rfl, oc, hb_w7⟩; have hs_w7 := hb_w7.size; (try simp at hs_w7)))
  have OC := Lib.hid oc
  clear oc
  go_wp2_with ((go_at_call 33; (with_reducible refine (toInts_n HN.out.2 q d _ ?_ h1l).mono ?_); (focus ((exact HI.out.below (by repeat (first | assumption | exact Below.refl _ _ | (refine below_chain ?_ (by assumption) (by first | omega | (simp <;> omega) | simp)) | (refine Below.alloc ?_ (by first | omega | (simp <;> omega) | simp) _) | (apply below_drewN) | (apply below_drew) | (refine Below.setCell ?_ (by first | omega | (simp <;> omega) | simp) _)))); done)); rintro e w7b ⟨rfl, oz, hb_w7b⟩; have hs_w7b := hb_w7b.size; (try simp at hs_w7b)))
  have OZ := Lib.hid oz
  clear oz
  go_wp2_with ((go_at_call 26; (with_reducible refine ((kI _ _ _ _ _ ?_ ?_).out).mono ?_); (focus ((exact (OC.out.below (by repeat (first | assumption | exact Below.refl _ _ | (refine below_chain ?_ (by assumption) (by first | omega | (simp <;> omega) | simp)) | (refine Below.alloc ?_ (by first | omega | (simp <;> omega) | simp) _) | (apply below_drewN) | (apply below_drew) | (refine Below.setCell ?_ (by first | omega | (simp <;> omega) | simp) _)))).ints); done)); (focus ((exact OZ.out.ints); done)); rintro e w8 ⟨gj, cj, rfl, hgj, oj, hb_w8⟩; have hs_w8 := hb_w8.size; (try simp at hs_w8)))
  have OJ := Lib.hid oj
  clear oj
  go_wp2_with ((go_at_call 34; (with_reducible refine (eqInts_n hLN _ _ _ _ _ ?_ ?_ (by omega)).mono ?_); (focus ((exact OJ.out.ints); done)); (focus ((exact (OS6.out.below (by repeat (first | assumption | exact Below.refl _ _ | (refine below_chain ?_ (by assumption) (by first | omega | (simp <;> omega) | simp)) | (refine Below.alloc ?_ (by first | omega | (simp <;> omega) | simp) _) | (apply below_drewN) | (apply below_drew) | (refine Below.setCell ?_ (by first | omega | (simp <;> omega) | simp) _)))).ints); done)); rintro e w9 ⟨rfl, hb_w9⟩; have hs_w9 := hb_w9.size; (try simp at hs_w9)))
  have OI9 := Lib.hid (OI6.out.below (w' := w9) (by repeat (first | assumption | exact Below.refl _ _ | (refine below_chain ?_ (by assumption) (by first | omega | (simp <;> omega) | simp)) | (refine Below.alloc ?_ (by first | omega | (simp <;> omega) | simp) _) | (apply below_drewN) | (apply below_drew) | (refine Below.setCell ?_ (by first | omega | (simp <;> omega) | simp) _))))
  go_wp2_with (go_at_call 36; (with_reducible refine (heldInts _ _ _ _ _ OI9.out hLN (by omega)).mono ?_); rintro e w' ⟨rfl, rfl⟩)
  go_ret
  exact ⟨rfl, (by repeat (first | assumption | exact Below.refl _ _ | (refine below_chain ?_ (by assumption) (by first | omega | (simp <;> omega) | simp)) | (refine Below.alloc ?_ (by first | omega | (simp <;> omega) | simp) _) | (apply below_drewN) | (apply below_drew) | (refine Below.setCell ?_ (by first | omega | (simp <;> omega) | simp) _)))⟩

set_option maxHeartbeats 8000000 in
theorem walk_no (w : World) (p : Option Addr) (c : Nat) (ls : List Int) (H : Hid (Ints w p ls)) (n1 : Nat) (hn1 : ls.length = n1) (h1l : n1 ≤ 1048576) (q : Option Addr) (d : Nat) (ss : List Int) (HI : Hid (Ints w q ss)) (n2 : Nat) (hn2 : ss.length = n2) (h2l : n2 ≤ 1048576) (hr : ¬ risOk ls ss) :
    Calls Try.prog 13 #[.slice p n1 c, .slice q n2 d] w fun e w' => e = .returned (.bool true) ∧ Below w.heap.size w w' := by
  have hl3 : ¬ (1048576 : Int) < (n1 : Int) := by omega
  have hm3 : ¬ (1048576 : Int) < (n2 : Int) := by omega
  have kS := fun w p q c d h hq => Lib.hid (sShareRises_no n1 c n2 d p q ls ss w h hq hn1 hn2 (by omega) (by omega) hr)
  have kI := fun w p q c d h hq => Lib.hid (iShareRises_no n1 c n2 d p q ls ss w h hq hn1 hn2 (by omega) (by omega) hr)
  have hneg : ¬ (1 : Int) + (n1 : Int) + (n2 : Int) < 0 := by omega
  have hneg1 : ¬ (1 : Int) + (n1 : Int) < 0 := by omega
  have HN := Lib.hid (And.intro hn1 hn2)
  clear hr hn1 hn2
  go_enter Try.func13, Try.ntmps13
  go_wp2_with ((go_at_call 33; (with_reducible refine (toInts_n HN.out.1 p c _ ?_ h1l).mono ?_); (focus ((exact H.out.below (by repeat (first | assumption | exact Below.refl _ _ | (refine below_chain ?_ (by assumption) (by first | omega | (simp <;> omega) | simp)) | (refine Below.alloc ?_ (by first | omega | (simp <;> omega) | simp) _) | (apply below_drewN) | (apply below_drew) | (refine Below.setCell ?_ (by first | omega | (simp <;> omega) | simp) _)))); done)); rintro e wa ⟨rfl, oa, hb_wa⟩; have hs_wa := hb_wa.size; (try simp at hs_wa)))
  have OA := Lib.hid oa
  clear oa
  go_wp2_with ((go_at_call 33; (with_reducible refine (toInts_n HN.out.2 q d _ ?_ h2l).mono ?_); (focus ((exact HI.out.below (by repeat (first | assumption | exact Below.refl _ _ | (refine below_chain ?_ (by assumption) (by first | omega | (simp <;> omega) | simp)) | (refine Below.alloc ?_ (by first | omega | (simp <;> omega) | simp) _) | (apply below_drewN) | (apply below_drew) | (refine Below.setCell ?_ (by first | omega | (simp <;> omega) | simp) _)))); done)); rintro e wx ⟨rfl, ox, hb_wx⟩; have hs_wx := hb_wx.size; (try simp at hs_wx)))
  have OX := Lib.hid ox
  clear ox
  go_wp2_with ((go_at_call 27; (with_reducible refine ((kS _ _ _ _ _ ?_ ?_).out).mono ?_); (focus ((exact (OA.out.below (by repeat (first | assumption | exact Below.refl _ _ | (refine below_chain ?_ (by assumption) (by first | omega | (simp <;> omega) | simp)) | (refine Below.alloc ?_ (by first | omega | (simp <;> omega) | simp) _) | (apply below_drewN) | (apply below_drew) | (refine Below.setCell ?_ (by first | omega | (simp <;> omega) | simp) _)))).ints); done)); (focus ((exact OX.out.ints); done)); rintro e ws ⟨⟨gs, rfl⟩, hb_ws⟩; have hs_ws := hb_ws.size; (try simp at hs_ws)))
  go_wp2_with ((go_at_call 33; (with_reducible refine (toInts_n HN.out.1 p c _ ?_ h1l).mono ?_); (focus ((exact H.out.below (by repeat (first | assumption | exact Below.refl _ _ | (refine below_chain ?_ (by assumption) (by first | omega | (simp <;> omega) | simp)) | (refine Below.alloc ?_ (by first | omega | (simp <;> omega) | simp) _) | (apply below_drewN) | (apply below_drew) | (refine Below.setCell ?_ (by first | omega | (simp <;> omega) | simp) _)))); done)); rintro e wb ⟨rfl, ob, hb_wb⟩; have hs_wb := hb_wb.size; (try simp at hs_wb)))
  have OB := Lib.hid ob
  have hlb := ob.lt
  clear ob
  go_wp2_with ((go_at_call 33; (with_reducible refine (toInts_n HN.out.2 q d _ ?_ h2l).mono ?_); (focus ((exact HI.out.below (by repeat (first | assumption | exact Below.refl _ _ | (refine below_chain ?_ (by assumption) (by first | omega | (simp <;> omega) | simp)) | (refine Below.alloc ?_ (by first | omega | (simp <;> omega) | simp) _) | (apply below_drewN) | (apply below_drew) | (refine Below.setCell ?_ (by first | omega | (simp <;> omega) | simp) _)))); done)); rintro e wy ⟨rfl, oy, hb_wy⟩; have hs_wy := hb_wy.size; (try simp at hs_wy)))
  have OY := Lib.hid oy
  have hly := oy.lt
  clear oy
  go_wp2_with ((go_at_call 26; (with_reducible refine ((kI _ _ _ _ _ ?_ ?_).out).mono ?_); (focus ((exact (OB.out.below (by repeat (first | assumption | exact Below.refl _ _ | (refine below_chain ?_ (by assumption) (by first | omega | (simp <;> omega) | simp)) | (refine Below.alloc ?_ (by first | omega | (simp <;> omega) | simp) _) | (apply below_drewN) | (apply below_drew) | (refine Below.setCell ?_ (by first | omega | (simp <;> omega) | simp) _)))).ints); done)); (focus ((exact OY.out.ints); done)); rintro e wi ⟨⟨gi, ci, rfl⟩, hb_wi⟩; have hs_wi := hb_wi.size; (try simp at hs_wi)))
  go_wp2_with ((go_at_call 34; (with_reducible refine (eqInts_nil _ _ _ _ _).mono ?_); rintro e w1 ⟨rfl, hb_w1⟩; have hs_w1 := hb_w1.size; (try simp at hs_w1)))
  go_wp2_with ((go_at_call 33; (with_reducible refine (toInts_n HN.out.1 p c _ ?_ h1l).mono ?_); (focus ((exact H.out.below (by repeat (first | assumption | exact Below.refl _ _ | (refine below_chain ?_ (by assumption) (by first | omega | (simp <;> omega) | simp)) | (refine Below.alloc ?_ (by first | omega | (simp <;> omega) | simp) _) | (apply below_drewN) | (apply below_drew) | (refine Below.setCell ?_ (by first | omega | (simp <;> omega) | simp) _)))); done)); rintro e w2 ⟨rfl, oc, hb_w2⟩; have hs_w2 := hb_w2.size; (try simp at hs_w2)))
  have OC := Lib.hid oc
  clear oc
  go_wp2_with ((go_at_call 34; (with_reducible refine (eqInts_n HN.out.1 _ _ _ _ _ ?_ ?_ (by omega)).mono ?_); (focus ((exact (OB.out.below (by repeat (first | assumption | exact Below.refl _ _ | (refine below_chain ?_ (by assumption) (by first | omega | (simp <;> omega) | simp)) | (refine Below.alloc ?_ (by first | omega | (simp <;> omega) | simp) _) | (apply below_drewN) | (apply below_drew) | (refine Below.setCell ?_ (by first | omega | (simp <;> omega) | simp) _)))).ints); done)); (focus ((exact OC.out.ints); done)); rintro e w3 ⟨rfl, hb_w3⟩; have hs_w3 := hb_w3.size; (try simp at hs_w3)))
  go_wp2_with ((go_at_call 33; (with_reducible refine (toInts_n HN.out.2 q d _ ?_ h2l).mono ?_); (focus ((exact HI.out.below (by repeat (first | assumption | exact Below.refl _ _ | (refine below_chain ?_ (by assumption) (by first | omega | (simp <;> omega) | simp)) | (refine Below.alloc ?_ (by first | omega | (simp <;> omega) | simp) _) | (apply below_drewN) | (apply below_drew) | (refine Below.setCell ?_ (by first | omega | (simp <;> omega) | simp) _)))); done)); rintro e wz ⟨rfl, oz, hb_wz⟩; have hs_wz := hb_wz.size; (try simp at hs_wz)))
  have OZ := Lib.hid oz
  clear oz
  go_wp2_with ((go_at_call 34; (with_reducible refine (eqInts_n HN.out.2 _ _ _ _ _ ?_ ?_ (by omega)).mono ?_); (focus ((exact (OY.out.below (by repeat (first | assumption | exact Below.refl _ _ | (refine below_chain ?_ (by assumption) (by first | omega | (simp <;> omega) | simp)) | (refine Below.alloc ?_ (by first | omega | (simp <;> omega) | simp) _) | (apply below_drewN) | (apply below_drew) | (refine Below.setCell ?_ (by first | omega | (simp <;> omega) | simp) _)))).ints); done)); (focus ((exact OZ.out.ints); done)); rintro e wf ⟨rfl, hb_wf⟩; have hs_wf := hb_wf.size; (try simp at hs_wf)))
  have OB3 := Lib.hid (OB.out.below (w' := wf) (by repeat (first | assumption | exact Below.refl _ _ | (refine below_chain ?_ (by assumption) (by first | omega | (simp <;> omega) | simp)) | (refine Below.alloc ?_ (by first | omega | (simp <;> omega) | simp) _) | (apply below_drewN) | (apply below_drew) | (refine Below.setCell ?_ (by first | omega | (simp <;> omega) | simp) _))))
  have OY3 := Lib.hid (OY.out.below (w' := wf) (by repeat (first | assumption | exact Below.refl _ _ | (refine below_chain ?_ (by assumption) (by first | omega | (simp <;> omega) | simp)) | (refine Below.alloc ?_ (by first | omega | (simp <;> omega) | simp) _) | (apply below_drewN) | (apply below_drew) | (refine Below.setCell ?_ (by first | omega | (simp <;> omega) | simp) _))))
  have hB3 : Below w.heap.size w wf := (by repeat (first | assumption | exact Below.refl _ _ | (refine below_chain ?_ (by assumption) (by first | omega | (simp <;> omega) | simp)) | (refine Below.alloc ?_ (by first | omega | (simp <;> omega) | simp) _) | (apply below_drewN) | (apply below_drew) | (refine Below.setCell ?_ (by first | omega | (simp <;> omega) | simp) _)))
  have g5 : w.heap.size ≤ ws.heap.size := by omega
  have g6 : w.heap.size ≤ wf.heap.size := by omega
  clear OC OZ OA OX OB OY hb_wa hb_wx hb_ws hb_wb hb_wy hb_wi hb_w1 hb_w2 hb_w3 hb_wz hb_wf
  go_wp2_with (go_at_call 35; (with_reducible refine (markInts _ _ _ _ _ OB3.out h1l).mono ?_); rintro e w4 ⟨rfl, om, hg4⟩; have hs4 := Nat.le_of_eq hg4.2; have hs4' := Nat.le_of_eq hg4.2.symm; have HG4 := Lib.hid hg4; clear hg4 om)
  have hB4 : Below w.heap.size w w4 := below_grew hB3 HG4.out (by omega) (by omega)
  have OY4 := Lib.hid (OY3.out.grown HG4.out.1 (by omega))
  clear OB3 OY3 hB3
  go_wp2_with (go_at_call 35; (with_reducible refine (markAny _ (by omega) (by omega) _ _ _ _ _ OY4.out h2l).mono ?_); rintro e w4b ⟨rfl, hg4⟩; have hs4b := Nat.le_of_eq hg4.2; have hs4b' := Nat.le_of_eq hg4.2.symm; have HG4b := Lib.hid hg4; clear hg4)
  have hB4b : Below w.heap.size w w4b := below_grew hB4 HG4b.out (by omega) (by omega)
  clear OY4 hB4
  go_wp2_with ((go_at_call 34; (with_reducible refine (eqInts_nil _ _ _ _ _).mono ?_); rintro e w5 ⟨rfl, hb_w5⟩; have hs_w5 := hb_w5.size; (try simp at hs_w5)))
  go_wp2_with (first | (go_at_call 35; (with_reducible refine (markInts_nil _ _ _).mono ?_); rintro e w' ⟨rfl, rfl⟩) | (go_at_call 36; (with_reducible refine (heldInts_nil _ _ _).mono ?_); rintro e w' ⟨rfl, rfl⟩))
  go_wp2_with ((go_at_call 33; (with_reducible refine (toInts_n HN.out.1 p c _ ?_ h1l).mono ?_); (focus ((exact H.out.below (by repeat (first | assumption | exact Below.refl _ _ | (refine below_chain ?_ (by assumption) (by first | omega | (simp <;> omega) | simp)) | (refine Below.alloc ?_ (by first | omega | (simp <;> omega) | simp) _) | (apply below_drewN) | (apply below_drew) | (refine Below.setCell ?_ (by first | omega | (simp <;> omega) | simp) _)))); done)); rintro e w7 ⟨rfl, oc, hb_w7⟩; have hs_w7 := hb_w7.size; (try simp at hs_w7)))
  have OC := Lib.hid oc
  clear oc
  go_wp2_with ((go_at_call 33; (with_reducible refine (toInts_n HN.out.2 q d _ ?_ h2l).mono ?_); (focus ((exact HI.out.below (by repeat (first | assumption | exact Below.refl _ _ | (refine below_chain ?_ (by assumption) (by first | omega | (simp <;> omega) | simp)) | (refine Below.alloc ?_ (by first | omega | (simp <;> omega) | simp) _) | (apply below_drewN) | (apply below_drew) | (refine Below.setCell ?_ (by first | omega | (simp <;> omega) | simp) _)))); done)); rintro e w7b ⟨rfl, oz, hb_w7b⟩; have hs_w7b := hb_w7b.size; (try simp at hs_w7b)))
  have OZ := Lib.hid oz
  clear oz
  go_wp2_with ((go_at_call 26; (with_reducible refine ((kI _ _ _ _ _ ?_ ?_).out).mono ?_); (focus ((exact (OC.out.below (by repeat (first | assumption | exact Below.refl _ _ | (refine below_chain ?_ (by assumption) (by first | omega | (simp <;> omega) | simp)) | (refine Below.alloc ?_ (by first | omega | (simp <;> omega) | simp) _) | (apply below_drewN) | (apply below_drew) | (refine Below.setCell ?_ (by first | omega | (simp <;> omega) | simp) _)))).ints); done)); (focus ((exact OZ.out.ints); done)); rintro e w8 ⟨⟨gj, cj, rfl⟩, hb_w8⟩; have hs_w8 := hb_w8.size; (try simp at hs_w8)))
  go_wp2_with (first | (go_at_call 34; (with_reducible refine (eqInts_nil _ _ _ _ _).mono ?_); rintro e w9 ⟨rfl, hb_w9⟩; have hs_w9 := hb_w9.size; (try simp at hs_w9)) | (go_at_call 36; (with_reducible refine (heldInts_nil _ _ _).mono ?_); rintro e w' ⟨rfl, rfl⟩))
  go_ret
  exact ⟨rfl, (by repeat (first | assumption | exact Below.refl _ _ | (refine below_chain ?_ (by assumption) (by first | omega | (simp <;> omega) | simp)) | (refine Below.alloc ?_ (by first | omega | (simp <;> omega) | simp) _) | (apply below_drewN) | (apply below_drew) | (refine Below.setCell ?_ (by first | omega | (simp <;> omega) | simp) _)))⟩
theorem walk (w : World) (p : Option Addr) (c : Nat) (ls : List Int) (h : Ints w p ls) (hl : ls.length ≤ 9223372036854775807) (q : Option Addr) (d : Nat) (ss : List Int) (hh : Ints w q ss) (hlh : ss.length ≤ 9223372036854775807) :
    Calls Try.prog 13 #[.slice p ls.length c, .slice q ss.length d] w fun e w' => e = .returned (.bool true) ∧ Below w.heap.size w w' := by
  by_cases h1l : ls.length ≤ 1048576
  · by_cases h2l : ss.length ≤ 1048576
    · by_cases hr : risOk ls ss
      · have := walk_yes w p c ls (Lib.hid h) ls.length rfl q d ss (Lib.hid hh) hr.2.1 hr
        rw [hr.2.1]; exact this
      · exact walk_no w p c ls (Lib.hid h) ls.length rfl h1l q d ss (Lib.hid hh) ss.length rfl h2l hr
    · have hm3 : (1048576 : Int) < (ss.length : Int) := by omega
      have hl3 : ¬ (1048576 : Int) < (ls.length : Int) := by omega
      clear h hh
      go_enter Try.func13, Try.ntmps13
      go_wp2_with fail
      go_ret
      exact ⟨rfl, (by repeat (first | assumption | exact Below.refl _ _ | (refine below_chain ?_ (by assumption) (by first | omega | (simp <;> omega) | simp)) | (refine Below.alloc ?_ (by first | omega | (simp <;> omega) | simp) _) | (apply below_drewN) | (apply below_drew) | (refine Below.setCell ?_ (by first | omega | (simp <;> omega) | simp) _)))⟩
  · have hl3 : (1048576 : Int) < (ls.length : Int) := by omega
    clear h hh
    go_enter Try.func13, Try.ntmps13
    go_wp2_with fail
    go_ret
    exact ⟨rfl, (by repeat (first | assumption | exact Below.refl _ _ | (refine below_chain ?_ (by assumption) (by first | omega | (simp <;> omega) | simp)) | (refine Below.alloc ?_ (by first | omega | (simp <;> omega) | simp) _) | (apply below_drewN) | (apply below_drew) | (refine Below.setCell ?_ (by first | omega | (simp <;> omega) | simp) _)))⟩

set_option maxRecDepth 100000 in
theorem lifted (os : Os) (started : os.Started) (H : Type) (enc : TypeId × Value → H) :
    ReturnsInHanded {} Try.checked os 13 .any (Rows.fnExactShareRisesSpec.pre6 enc Try.prog Try.f13 Rows.fnExactShareRisesRow.domain false) (Rows.fnExactShareRisesSpec.post enc Try.prog Try.f13 false true false false) := by
  refine returnsInHanded_of_change (C := Try.checked) own started (by kernel_rfl) Try.func13
    (ChangeSpec.witness6 (enc := enc) (C := Try.checked) false ⟨#[], #[.slice none 0 0, .slice none 0 0], []⟩ 8 (by kernel_rfl) (by kernel_rfl) (by kernel_rfl) (by kernel_rfl)) ?_
  intro W base args ds gs before hval0 hW hcnd _
  have hval : ∀ (j : Nat) t v, Try.f13.params[j]? = some t → args[j]? = some v → Value.okWide Try.prog W .any base t v := hval0
  have hW' := hW
  obtain ⟨p, q, hA0, hV, rfl, hfz, hnd⟩ := hW
  have hA : DataW.TrodAll enc Try.prog W 0 (fun _ => true) true Try.f13.params.toList args.toList ds p := hA0
  rw [Try.params13] at hA hval
  obtain ⟨v0, vs0, d0, ds0, p0, q0, hargs, rfl, rfl, h0, r0⟩ := trodAll_cons hA
  obtain ⟨v1, vs1, d1, ds1, p1, q1, rfl, rfl, rfl, h1, r1⟩ := trodAll_cons r0
  obtain ⟨rfl, rfl, rfl⟩ := trodAll_nil r1
  obtain rfl : args = #[v0, v1] := by cases args; simp_all
  obtain ⟨rfl, rfl⟩ := trodVars_none hV
  obtain ⟨a0, len0, cap0, rfl⟩ := okWide_slice Try.underlying23 (hval 0 23 v0 rfl rfl)
  have k0 := h0
  have lt0 : ∀ x ∈ p0, x.block < W.heap.size := by obtain ⟨m, hm⟩ := k0; exact DataW.trod_lt m _ _ _ hm
  obtain ⟨x0, e0, r0', l0⟩ := open_nums h0
  subst e0
  obtain ⟨a1, len1, cap1, rfl⟩ := okWide_slice Try.underlying23 (hval 1 23 v1 rfl rfl)
  have k1 := h1
  have lt1 : ∀ x ∈ p1, x.block < W.heap.size := by obtain ⟨m, hm⟩ := k1; exact DataW.trod_lt m _ _ _ hm
  obtain ⟨x1, e1, r1', l1⟩ := open_nums h1
  subst e1
  clear hA0 hval0
  refine (walk W a0 cap0 x0 r0' l0 a1 cap1 x1 r1' l1).mono fun e W' ⟨he, bel⟩ => ?_
  subst he
  exact ⟨_, rfl, _, _, _, [], _, [], hW', trodAll_mk1 (shut_bool Try.underlying4 _), (trodAll_cons_mk (Below.trod laidOut (by kernel_rfl) (of_decide_eq_true (by kernel_rfl)) k0 bel lt0) (trodAll_cons_mk (Below.trod laidOut (by kernel_rfl) (of_decide_eq_true (by kernel_rfl)) k1 bel lt1) trodAll_mk0)), rfl, bel.frame _, fun h => by cases h⟩

theorem over : Rows.fnExactShareRisesRow.holds Try.pinned (OpenSpec.ofChange Rows.fnExactShareRisesSpec) :=
  OpenClaim.holds_of_wide 13 Try.f13 rfl rfl rfl rfl rfl rfl rfl ⟨rfl, rfl, rfl, rfl, rfl⟩ rfl rfl rfl rfl rfl (by kernel_rfl) Try.func13 (by kernel_rfl)
    (of_decide_eq_true (by kernel_rfl)) (by unfold Func.isWrapper; first | (rw [if_pos (by decide +kernel)]; kernel_rfl) | (rw [if_neg (by decide +kernel)]; exact ⟨rfl, rfl⟩))
    (fun os started H enc _ => lifted os started H enc)

theorem proved : Rows.FnExactShareRisesSaid :=
  over
end Go.Proofs.Ytjfbkafekkbcdaa.fnExactShareRises

