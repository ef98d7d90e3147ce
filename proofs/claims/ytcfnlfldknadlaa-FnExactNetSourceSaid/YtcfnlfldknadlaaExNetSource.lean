/-
  For every number and every list of runs the law FnExactNetSource returns true: impl.NetSource answers the source of a net as the reference model does, in every field, leaves the runs as they were, and its answer owns its memory. No condition: every int and every list are taken.
-/
import Derived.Test.YtcfnlfldknadlaaOpN
import Derived.Test.YtcfnlfldknadlaaZf
import Derived.Test.YtcfnlfldknadlaaZn
namespace Go.Proofs.Ytcfnlfldknadlaa.fnExactNetSource
open Go.ChangeShapes Go.WideShapes Go.ChangeAt Go.RowKit
set_option linter.unusedVariables false

theorem below_grew {B g : Nat} {a w w' : World} (h : Below B a w) (hg : grew w w' g) (hB : B ≤ g) (hs : B ≤ w.heap.size) : Below B a w' := below_gr h hg.1 hB hs
theorem own_tail {w : World} {g N : Nat} {L zs : List Int} (h : Own w g 3 1 N N L) (e : L.drop 1 = zs) : Ints w (some ⟨g, 1, none⟩) zs := by
  subst e
  refine .inr ⟨g, 1, rfl, h.lt, fun i z hi => ?_⟩
  rw [List.getElem?_drop] at hi
  exact h.cells hi
theorem own_tailI {w : World} {g M : Nat} {z0 : Int} {zs : List Int} (h : Own w g 3 1 M M (z0 :: zs)) : Ints w (some ⟨g, 1, none⟩) zs := own_tail h rfl
theorem drop_rgL (n : Nat) (f : Nat → Int) : (rgL (n + 1) f).drop 1 = rgL n (fun i => f (i + 1)) := by
  refine List.ext_getElem? (fun i => ?_)
  rw [List.getElem?_drop]
  by_cases h : i < n
  · rw [rgL_at _ h, Nat.add_comm 1 i, rgL_at _ (by omega)]
  · rw [List.getElem?_eq_none (by rw [rgL_len]; omega), List.getElem?_eq_none (by rw [rgL_len]; omega)]
set_option maxHeartbeats 1000000 in
theorem markIntsT (g n N C c : Nat) (z0 : Int) (xs : List Int) (w : World) (hp : Own w g 3 1 N C (z0 :: xs)) (hx : xs.length = n) (hl : n ≤ 1048576) :
    Calls Try.prog 50 #[.slice (some ⟨g, 1, none⟩) n c, .int .i64 1] w fun e w' => e = .returned (.int .i64 (1 + n)) ∧ Own w' g 3 1 N C (z0 :: mk n xs) ∧ grew w w' g := by
  have h0 := Lib.hid hp
  clear hp
  go_enter Try.func50, Try.ntmps50
  go_wp2_with fail
  go_loopw [1, 5] (fun m i wr => ∃ k : Nat, k ≤ n ∧ i = .int .i64 k ∧ m = .int .i64 (1 + k) ∧ Own wr g 3 1 N C (z0 :: mk k xs) ∧ grew w wr g) (fun _ i _ => n - (intOf i).toNat)
  case atStart => exact ⟨0, Nat.zero_le _, rfl, rfl, by rw [mk_zero]; exact h0.out, grew.refl _ _⟩
  case round =>
    obtain ⟨k, hk, rfl, rfl, how, hbr⟩ := hrel
    have HO := Lib.hid how
    have HG := Lib.hid hbr
    by_cases hlt : k < n
    · have hf := how.frozen (1 + k)
      have hlo := how.lt
      have hcx := how.cells (i := 1 + k) (z := ((mk k xs)[k]?).getD 0) (by have := mk_len (j := k) (xs := xs) (by omega); rw [Nat.add_comm 1 k, List.getElem?_cons_succ, List.getElem?_eq_getElem (by omega)]; rfl)
      clear how hbr h0
      go_wp2_with fail
      go_roundw
      case rel => exact ⟨k + 1, by omega, by go_num, by go_num, by rw [← mk_set (by omega), ← List.set_cons_succ, Nat.add_comm k 1]; exact HO.out.set (1 + k) _ (by rw [List.length_cons, mk_len (by omega)]; omega), HG.out.set _ _⟩
      case measure => simp [intOf]; omega
    · have e : k = n := by omega
      subst e
      clear how hbr h0
      go_wp2_with fail
      go_ret
      exact ⟨rfl, HO.out, HG.out⟩
set_option maxHeartbeats 1000000 in
theorem heldIntsT (g n N C c : Nat) (z0 : Int) (xs : List Int) (w : World) (hp : Own w g 3 1 N C (z0 :: mk n xs)) (hx : xs.length = n) (hl : n ≤ 1048576) :
    Calls Try.prog 51 #[.slice (some ⟨g, 1, none⟩) n c, .int .i64 1] w fun e w' => e = .returned (.int .i64 (1 + n)) ∧ w = w' := by
  have h0 := Lib.hid hp
  clear hp
  go_enter Try.func51, Try.ntmps51
  go_wp2_with fail
  go_loopw [1, 5] (fun m i wr => ∃ k : Nat, k ≤ n ∧ i = .int .i64 k ∧ m = .int .i64 (1 + k) ∧ w = wr) (fun _ i _ => n - (intOf i).toNat)
  case atStart => exact ⟨0, Nat.zero_le _, rfl, rfl, rfl⟩
  case round =>
    obtain ⟨k, hk, rfl, rfl, rfl⟩ := hrel
    by_cases hlt : k < n
    · have hcx := h0.out.cells (i := 1 + k) (z := 1 + (k : Int)) (by rw [Nat.add_comm 1 k, List.getElem?_cons_succ]; exact mk_at hx hlt)
      go_wp2_with fail
      go_roundw
      case rel => exact ⟨k + 1, by omega, by go_num, by go_num, trivial⟩
      case measure => simp [intOf]; omega
    · have e : k = n := by omega
      subst e
      go_wp2_with fail
      go_ret
      exact ⟨rfl, by first | trivial | rfl⟩
set_option maxHeartbeats 8000000 in
theorem walk_yes (w : World) (N n : Nat) (p : Option Addr) (c : Nat) (rs : List Rn) (H : Hid (Runs w p rs)) (h1 : nOk (N : Int) rs = true) (hNn : N = n + 1) :
    Calls Try.prog 11 #[.int .i64 N, .slice p rs.length c] w fun e w' => e = .returned (.bool true) ∧ Below w.heap.size w w' := by
  have hl := (nOk_true h1).2.2.1
  have hl3 : ¬ (1048576 : Int) < (rs.length : Int) := by omega
  have hl2 : rs.length ≤ 1048576 := by omega
  have hl4 : rs.length ≤ 4000000000000000000 := by omega
  have hl9 : rs.length ≤ 9223372036854775807 := by omega
  have hn6 : N ≤ 6 := by have := (nOk_true h1).2.1; omega
  obtain ⟨L, hL⟩ : ∃ L, rgL N (srcs rs) = L := ⟨_, rfl⟩
  obtain ⟨zs, hzs⟩ : ∃ zs, rgL n (fun i => srcs rs (i + 1)) = zs := ⟨_, rfl⟩
  have hzl : zs.length = n := by rw [← hzs]; exact rgL_len _ _
  have hd : Hid (L.drop 1 = zs) := Lib.hid (by rw [← hL, ← hzs, hNn]; exact drop_rgL n (srcs rs))
  have hll : zs.length ≤ 12 := by omega
  have kS := fun w p c h => Lib.hid (show Calls Try.prog 36 #[.int .i64 N, .slice p rs.length c] w fun e w' => ∃ gs cs, e = .returned (.tuple #[.slice (some ⟨gs, 1, none⟩) zs.length cs, .bool true]) ∧ w.heap.size ≤ gs ∧ Own w' gs 3 1 N N L ∧ Below w.heap.size w w' from (sSource_yes N p c rs.length rs w h h1 rfl).mono (fun e w' ⟨g, he, hg, ho, hb⟩ => ⟨g, N - 1, by rw [he, hzl, show N - 1 = n by omega], hg, by rw [← hL]; exact ho, hb⟩))
  have kI := fun w p c h => Lib.hid (show Calls Try.prog 35 #[.int .i64 N, .slice p rs.length c] w fun e w' => ∃ g cap M z0, e = .returned (.tuple #[.slice (some ⟨g, 1, none⟩) zs.length cap, .bool true]) ∧ w.heap.size ≤ g ∧ Own w' g 3 1 M M (z0 :: zs) ∧ Below w.heap.size w w' from (iSource_yes N n p c rs.length rs w h h1 rfl hNn).mono (fun e w' ⟨g, cap, he, hg, ho, hb⟩ => by obtain ⟨M, z0, ho⟩ := ho; exact ⟨g, cap, M, z0, by rw [he, hzl], hg, by rw [← hzs]; exact ho, hb⟩))
  have hn1 : ¬ (1 : Int) + (rs.length : Int) * 4 < 0 := by omega
  have hn2 : ¬ (1 : Int) + (zs.length : Int) < 0 := by omega
  clear h1 hL hzs hzl hNn
  go_enter Try.func11, Try.ntmps11
  go_wp2_with ((go_at_call 42; (with_reducible refine (szRuns _ _ _ _ hl9).mono ?_); rintro e w' ⟨rfl, rfl⟩))
  go_wp2_with ((go_at_call 43; (with_reducible refine (toRuns p c rs _ ?_ hl2).mono ?_); (focus ((exact H.out.below (by repeat (first | assumption | exact Below.refl _ _ | (refine below_chain ?_ (by assumption) (by first | omega | (simp <;> omega) | simp)) | (refine Below.alloc ?_ (by first | omega | (simp <;> omega) | simp) _) | (apply below_drewN) | (apply below_drew) | (refine Below.setCell ?_ (by first | omega | (simp <;> omega) | simp) _)))); done)); rintro e wa ⟨rfl, oa, hb_wa⟩; have hs_wa := hb_wa.size; (try simp at hs_wa)))
  have OA := Lib.hid oa
  clear oa
  go_wp2_with ((go_at_call 36; (with_reducible refine ((kS _ _ _ ?_).out).mono ?_); (focus ((exact OA.out.runs); done)); rintro e ws ⟨gs, cs, rfl, hgs, os, hb_ws⟩; have hs_ws := hb_ws.size; (try simp at hs_ws)))
  have OS := Lib.hid os
  have hls := os.lt
  clear os
  go_wp2_with ((go_at_call 43; (with_reducible refine (toRuns p c rs _ ?_ hl2).mono ?_); (focus ((exact H.out.below (by repeat (first | assumption | exact Below.refl _ _ | (refine below_chain ?_ (by assumption) (by first | omega | (simp <;> omega) | simp)) | (refine Below.alloc ?_ (by first | omega | (simp <;> omega) | simp) _) | (apply below_drewN) | (apply below_drew) | (refine Below.setCell ?_ (by first | omega | (simp <;> omega) | simp) _)))); done)); rintro e wb ⟨rfl, ob, hb_wb⟩; have hs_wb := hb_wb.size; (try simp at hs_wb)))
  have OB := Lib.hid ob
  have hlb := ob.lt
  clear ob
  go_wp2_with ((go_at_call 35; (with_reducible refine ((kI _ _ _ ?_).out).mono ?_); (focus ((exact OB.out.runs); done)); rintro e wi ⟨gi, ci, Mi, zi, rfl, hgi, oi, hb_wi⟩; have hs_wi := hb_wi.size; (try simp at hs_wi)))
  have OI := Lib.hid oi
  have hli := oi.lt
  clear oi
  go_wp2_with ((go_at_call 49; (with_reducible refine (eqInts _ _ _ _ zs _ ?_ ?_ (by omega)).mono ?_); (focus ((exact own_tailI OI.out); done)); (focus ((exact own_tail (OS.out.below (by repeat (first | assumption | exact Below.refl _ _ | (refine below_chain ?_ (by assumption) (by first | omega | (simp <;> omega) | simp)) | (refine Below.alloc ?_ (by first | omega | (simp <;> omega) | simp) _) | (apply below_drewN) | (apply below_drew) | (refine Below.setCell ?_ (by first | omega | (simp <;> omega) | simp) _)))) hd.out); done)); rintro e w1 ⟨rfl, hb_w1⟩; have hs_w1 := hb_w1.size; (try simp at hs_w1)))
  go_wp2_with ((go_at_call 43; (with_reducible refine (toRuns p c rs _ ?_ hl2).mono ?_); (focus ((exact H.out.below (by repeat (first | assumption | exact Below.refl _ _ | (refine below_chain ?_ (by assumption) (by first | omega | (simp <;> omega) | simp)) | (refine Below.alloc ?_ (by first | omega | (simp <;> omega) | simp) _) | (apply below_drewN) | (apply below_drew) | (refine Below.setCell ?_ (by first | omega | (simp <;> omega) | simp) _)))); done)); rintro e w2 ⟨rfl, oc, hb_w2⟩; have hs_w2 := hb_w2.size; (try simp at hs_w2)))
  have OC := Lib.hid oc
  clear oc
  go_wp2_with ((go_at_call 45; (with_reducible refine (eqRuns _ _ _ _ rs _ ?_ ?_ hl4).mono ?_); (focus ((exact (OB.out.below (by repeat (first | assumption | exact Below.refl _ _ | (refine below_chain ?_ (by assumption) (by first | omega | (simp <;> omega) | simp)) | (refine Below.alloc ?_ (by first | omega | (simp <;> omega) | simp) _) | (apply below_drewN) | (apply below_drew) | (refine Below.setCell ?_ (by first | omega | (simp <;> omega) | simp) _)))).runs); done)); (focus ((exact OC.out.runs); done)); rintro e w3 ⟨rfl, hb_w3⟩; have hs_w3 := hb_w3.size; (try simp at hs_w3)))
  have OB3 := Lib.hid (OB.out.below (w' := w3) (by repeat (first | assumption | exact Below.refl _ _ | (refine below_chain ?_ (by assumption) (by first | omega | (simp <;> omega) | simp)) | (refine Below.alloc ?_ (by first | omega | (simp <;> omega) | simp) _) | (apply below_drewN) | (apply below_drew) | (refine Below.setCell ?_ (by first | omega | (simp <;> omega) | simp) _))))
  have OI3 := Lib.hid (OI.out.below (w' := w3) (by repeat (first | assumption | exact Below.refl _ _ | (refine below_chain ?_ (by assumption) (by first | omega | (simp <;> omega) | simp)) | (refine Below.alloc ?_ (by first | omega | (simp <;> omega) | simp) _) | (apply below_drewN) | (apply below_drew) | (refine Below.setCell ?_ (by first | omega | (simp <;> omega) | simp) _))))
  have OS3 := Lib.hid (OS.out.below (w' := w3) (by repeat (first | assumption | exact Below.refl _ _ | (refine below_chain ?_ (by assumption) (by first | omega | (simp <;> omega) | simp)) | (refine Below.alloc ?_ (by first | omega | (simp <;> omega) | simp) _) | (apply below_drewN) | (apply below_drew) | (refine Below.setCell ?_ (by first | omega | (simp <;> omega) | simp) _))))
  have hB3 : Below w.heap.size w w3 := (by repeat (first | assumption | exact Below.refl _ _ | (refine below_chain ?_ (by assumption) (by first | omega | (simp <;> omega) | simp)) | (refine Below.alloc ?_ (by first | omega | (simp <;> omega) | simp) _) | (apply below_drewN) | (apply below_drew) | (refine Below.setCell ?_ (by first | omega | (simp <;> omega) | simp) _)))
  have g1 : w.heap.size ≤ gs := by omega
  have g2 : gs < ws.heap.size := hls
  have g3 : ws.heap.size < gi := by omega
  have g4 : gi < w3.heap.size := by omega
  have g5 : w.heap.size ≤ ws.heap.size := by omega
  have g6 : w.heap.size ≤ w3.heap.size := by omega
  clear OC OA OB OI OS hb_wa hb_ws hb_wb hb_wi hb_w1 hb_w2 hb_w3
  go_wp2_with (go_at_call 46; (with_reducible refine (markRuns _ _ _ _ _ OB3.out hl2).mono ?_); rintro e w4 ⟨rfl, om, hg4⟩; have hs4 := Nat.le_of_eq hg4.2; have hs4' := Nat.le_of_eq hg4.2.symm; have HG4 := Lib.hid hg4; clear hg4 om)
  have hB4 : Below w.heap.size w w4 := below_grew hB3 HG4.out (by omega) (by omega)
  have OI4 := Lib.hid (OI3.out.grown HG4.out.1 (by omega))
  have OS4 := Lib.hid (OS3.out.grown HG4.out.1 (by omega))
  clear OB3 OI3 OS3 hB3
  go_wp2_with ((go_at_call 49; (with_reducible refine (eqInts _ _ _ _ zs _ ?_ ?_ (by omega)).mono ?_); (focus ((exact own_tailI OI4.out); done)); (focus ((exact own_tail OS4.out hd.out); done)); rintro e w5 ⟨rfl, hb_w5⟩; have hs_w5 := hb_w5.size; (try simp at hs_w5)))
  have OI5 := Lib.hid (OI4.out.below (w' := w5) (by repeat (first | assumption | exact Below.refl _ _ | (refine below_chain ?_ (by assumption) (by first | omega | (simp <;> omega) | simp)) | (refine Below.alloc ?_ (by first | omega | (simp <;> omega) | simp) _) | (apply below_drewN) | (apply below_drew) | (refine Below.setCell ?_ (by first | omega | (simp <;> omega) | simp) _))))
  have OS5 := Lib.hid (OS4.out.below (w' := w5) (by repeat (first | assumption | exact Below.refl _ _ | (refine below_chain ?_ (by assumption) (by first | omega | (simp <;> omega) | simp)) | (refine Below.alloc ?_ (by first | omega | (simp <;> omega) | simp) _) | (apply below_drewN) | (apply below_drew) | (refine Below.setCell ?_ (by first | omega | (simp <;> omega) | simp) _))))
  have hB5 : Below w.heap.size w w5 := (by repeat (first | assumption | exact Below.refl _ _ | (refine below_chain ?_ (by assumption) (by first | omega | (simp <;> omega) | simp)) | (refine Below.alloc ?_ (by first | omega | (simp <;> omega) | simp) _) | (apply below_drewN) | (apply below_drew) | (refine Below.setCell ?_ (by first | omega | (simp <;> omega) | simp) _)))
  clear OI4 OS4 hB4 hb_w5
  go_wp2_with (go_at_call 50; (with_reducible refine (markIntsT _ _ _ _ _ _ _ _ OI5.out rfl (by omega)).mono ?_); rintro e w6 ⟨rfl, om, hg6⟩; have hs6 := Nat.le_of_eq hg6.2; have hs6' := Nat.le_of_eq hg6.2.symm; have HG6 := Lib.hid (And.intro hg6 om); clear hg6 om)
  have hB6 : Below w.heap.size w w6 := below_grew hB5 HG6.out.1 (by omega) (by omega)
  have OS6 := Lib.hid (OS5.out.grown HG6.out.1.1 (by omega))
  have OI6 := Lib.hid HG6.out.2
  clear OI5 OS5 hB5 HG6
  go_wp2_with (go_at_call 51; (with_reducible refine (heldIntsT _ _ _ _ _ _ zs _ OI6.out rfl (by omega)).mono ?_); rintro e w' ⟨rfl, rfl⟩)
  go_wp2_with ((go_at_call 43; (with_reducible refine (toRuns p c rs _ ?_ hl2).mono ?_); (focus ((exact H.out.below (by repeat (first | assumption | exact Below.refl _ _ | (refine below_chain ?_ (by assumption) (by first | omega | (simp <;> omega) | simp)) | (refine Below.alloc ?_ (by first | omega | (simp <;> omega) | simp) _) | (apply below_drewN) | (apply below_drew) | (refine Below.setCell ?_ (by first | omega | (simp <;> omega) | simp) _)))); done)); rintro e w7 ⟨rfl, oc, hb_w7⟩; have hs_w7 := hb_w7.size; (try simp at hs_w7)))
  have OC := Lib.hid oc
  clear oc
  go_wp2_with ((go_at_call 35; (with_reducible refine ((kI _ _ _ ?_).out).mono ?_); (focus ((exact OC.out.runs); done)); rintro e w8 ⟨gj, cj, Mj, zj, rfl, hgj, oj, hb_w8⟩; have hs_w8 := hb_w8.size; (try simp at hs_w8)))
  have OJ := Lib.hid oj
  clear oj
  go_wp2_with ((go_at_call 49; (with_reducible refine (eqInts _ _ _ _ zs _ ?_ ?_ (by omega)).mono ?_); (focus ((exact own_tailI OJ.out); done)); (focus ((exact own_tail (OS6.out.below (by repeat (first | assumption | exact Below.refl _ _ | (refine below_chain ?_ (by assumption) (by first | omega | (simp <;> omega) | simp)) | (refine Below.alloc ?_ (by first | omega | (simp <;> omega) | simp) _) | (apply below_drewN) | (apply below_drew) | (refine Below.setCell ?_ (by first | omega | (simp <;> omega) | simp) _)))) hd.out); done)); rintro e w9 ⟨rfl, hb_w9⟩; have hs_w9 := hb_w9.size; (try simp at hs_w9)))
  have OI9 := Lib.hid (OI6.out.below (w' := w9) (by repeat (first | assumption | exact Below.refl _ _ | (refine below_chain ?_ (by assumption) (by first | omega | (simp <;> omega) | simp)) | (refine Below.alloc ?_ (by first | omega | (simp <;> omega) | simp) _) | (apply below_drewN) | (apply below_drew) | (refine Below.setCell ?_ (by first | omega | (simp <;> omega) | simp) _))))
  go_wp2_with (go_at_call 51; (with_reducible refine (heldIntsT _ _ _ _ _ _ zs _ OI9.out rfl (by omega)).mono ?_); rintro e w' ⟨rfl, rfl⟩)
  go_ret
  exact ⟨rfl, (by repeat (first | assumption | exact Below.refl _ _ | (refine below_chain ?_ (by assumption) (by first | omega | (simp <;> omega) | simp)) | (refine Below.alloc ?_ (by first | omega | (simp <;> omega) | simp) _) | (apply below_drewN) | (apply below_drew) | (refine Below.setCell ?_ (by first | omega | (simp <;> omega) | simp) _)))⟩
theorem eqInts_nil (p q : Option Addr) (c d : Nat) (w : World) :
    Calls Try.prog 49 #[.slice p 0 c, .slice q 0 d] w fun e w' => e = .returned (.bool true) ∧ Below w.heap.size w w' := eqInts p q c d [] w (.inl rfl) (.inl rfl) (by simp)
set_option maxHeartbeats 8000000 in
theorem walk_no (w : World) (n : Int) (p : Option Addr) (c : Nat) (rs : List Rn) (H : Hid (Runs w p rs)) (hl2 : rs.length ≤ 1048576) (hno : nOk n rs = false) :
    Calls Try.prog 11 #[.int .i64 n, .slice p rs.length c] w fun e w' => e = .returned (.bool true) ∧ Below w.heap.size w w' := by
  have kS := fun w p c h => Lib.hid (sSource_no n p c rs.length rs w h rfl (by omega) hno)
  have kI := fun w p c h => Lib.hid (iSource_no n p c rs.length rs w h rfl (by omega) hno)
  have hl3 : ¬ (1048576 : Int) < (rs.length : Int) := by omega
  have hl4 : rs.length ≤ 4000000000000000000 := by omega
  have hl9 : rs.length ≤ 9223372036854775807 := by omega
  have hn1 : ¬ (1 : Int) + (rs.length : Int) * 4 < 0 := by omega
  go_enter Try.func11, Try.ntmps11
  go_wp2_with ((go_at_call 42; (with_reducible refine (szRuns _ _ _ _ hl9).mono ?_); rintro e w' ⟨rfl, rfl⟩))
  go_wp2_with ((go_at_call 43; (with_reducible refine (toRuns p c rs _ ?_ hl2).mono ?_); (focus ((exact H.out.below (by repeat (first | assumption | exact Below.refl _ _ | (refine below_chain ?_ (by assumption) (by first | omega | (simp <;> omega) | simp)) | (refine Below.alloc ?_ (by first | omega | (simp <;> omega) | simp) _) | (apply below_drewN) | (apply below_drew) | (refine Below.setCell ?_ (by first | omega | (simp <;> omega) | simp) _)))); done)); rintro e wa ⟨rfl, oa, hb_wa⟩; have hs_wa := hb_wa.size; (try simp at hs_wa)))
  have OA := Lib.hid oa
  clear oa
  go_wp2_with ((go_at_call 36; (with_reducible refine ((kS _ _ _ ?_).out).mono ?_); (focus ((exact OA.out.runs); done)); rintro e ws ⟨⟨v, rfl⟩, hb_ws⟩; have hs_ws := hb_ws.size; (try simp at hs_ws)))
  go_wp2_with ((go_at_call 43; (with_reducible refine (toRuns p c rs _ ?_ hl2).mono ?_); (focus ((exact H.out.below (by repeat (first | assumption | exact Below.refl _ _ | (refine below_chain ?_ (by assumption) (by first | omega | (simp <;> omega) | simp)) | (refine Below.alloc ?_ (by first | omega | (simp <;> omega) | simp) _) | (apply below_drewN) | (apply below_drew) | (refine Below.setCell ?_ (by first | omega | (simp <;> omega) | simp) _)))); done)); rintro e wb ⟨rfl, ob, hb_wb⟩; have hs_wb := hb_wb.size; (try simp at hs_wb)))
  have OB := Lib.hid ob
  have hlb := ob.lt
  clear ob
  go_wp2_with ((go_at_call 35; (with_reducible refine ((kI _ _ _ ?_).out).mono ?_); (focus ((exact OB.out.runs); done)); rintro e wi ⟨⟨qi, di, rfl⟩, hb_wi⟩; have hs_wi := hb_wi.size; (try simp at hs_wi)))
  go_wp2_with ((go_at_call 49; (with_reducible refine (eqInts_nil _ _ _ _ _).mono ?_); rintro e w1 ⟨rfl, hb_w1⟩; have hs_w1 := hb_w1.size; (try simp at hs_w1)))
  go_wp2_with ((go_at_call 43; (with_reducible refine (toRuns p c rs _ ?_ hl2).mono ?_); (focus ((exact H.out.below (by repeat (first | assumption | exact Below.refl _ _ | (refine below_chain ?_ (by assumption) (by first | omega | (simp <;> omega) | simp)) | (refine Below.alloc ?_ (by first | omega | (simp <;> omega) | simp) _) | (apply below_drewN) | (apply below_drew) | (refine Below.setCell ?_ (by first | omega | (simp <;> omega) | simp) _)))); done)); rintro e w2 ⟨rfl, oc, hb_w2⟩; have hs_w2 := hb_w2.size; (try simp at hs_w2)))
  have OC := Lib.hid oc
  clear oc
  go_wp2_with ((go_at_call 45; (with_reducible refine (eqRuns _ _ _ _ rs _ ?_ ?_ hl4).mono ?_); (focus ((exact (OB.out.below (by repeat (first | assumption | exact Below.refl _ _ | (refine below_chain ?_ (by assumption) (by first | omega | (simp <;> omega) | simp)) | (refine Below.alloc ?_ (by first | omega | (simp <;> omega) | simp) _) | (apply below_drewN) | (apply below_drew) | (refine Below.setCell ?_ (by first | omega | (simp <;> omega) | simp) _)))).runs); done)); (focus ((exact OC.out.runs); done)); rintro e w3 ⟨rfl, hb_w3⟩; have hs_w3 := hb_w3.size; (try simp at hs_w3)))
  have OB3 := Lib.hid (OB.out.below (w' := w3) (by repeat (first | assumption | exact Below.refl _ _ | (refine below_chain ?_ (by assumption) (by first | omega | (simp <;> omega) | simp)) | (refine Below.alloc ?_ (by first | omega | (simp <;> omega) | simp) _) | (apply below_drewN) | (apply below_drew) | (refine Below.setCell ?_ (by first | omega | (simp <;> omega) | simp) _))))
  have hB3 : Below w.heap.size w w3 := (by repeat (first | assumption | exact Below.refl _ _ | (refine below_chain ?_ (by assumption) (by first | omega | (simp <;> omega) | simp)) | (refine Below.alloc ?_ (by first | omega | (simp <;> omega) | simp) _) | (apply below_drewN) | (apply below_drew) | (refine Below.setCell ?_ (by first | omega | (simp <;> omega) | simp) _)))
  have g5 : w.heap.size ≤ ws.heap.size := by omega
  have g6 : w.heap.size ≤ w3.heap.size := by omega
  clear OC OA OB hb_wa hb_ws hb_wb hb_wi hb_w1 hb_w2 hb_w3
  go_wp2_with (go_at_call 46; (with_reducible refine (markRuns _ _ _ _ _ OB3.out hl2).mono ?_); rintro e w4 ⟨rfl, om, hg4⟩; have hs4 := Nat.le_of_eq hg4.2; have hs4' := Nat.le_of_eq hg4.2.symm; have HG4 := Lib.hid hg4; clear hg4 om)
  have hB4 : Below w.heap.size w w4 := below_grew hB3 HG4.out (by omega) (by omega)
  clear OB3 hB3
  go_wp2_with ((go_at_call 49; (with_reducible refine (eqInts_nil _ _ _ _ _).mono ?_); rintro e w5 ⟨rfl, hb_w5⟩; have hs_w5 := hb_w5.size; (try simp at hs_w5)))
  go_wp2_with (first | (go_at_call 50; (with_reducible refine (markInts_nil _ _ _).mono ?_); rintro e w' ⟨rfl, rfl⟩) | (go_at_call 51; (with_reducible refine (heldInts_nil _ _ _).mono ?_); rintro e w' ⟨rfl, rfl⟩))
  go_wp2_with ((go_at_call 43; (with_reducible refine (toRuns p c rs _ ?_ hl2).mono ?_); (focus ((exact H.out.below (by repeat (first | assumption | exact Below.refl _ _ | (refine below_chain ?_ (by assumption) (by first | omega | (simp <;> omega) | simp)) | (refine Below.alloc ?_ (by first | omega | (simp <;> omega) | simp) _) | (apply below_drewN) | (apply below_drew) | (refine Below.setCell ?_ (by first | omega | (simp <;> omega) | simp) _)))); done)); rintro e w7 ⟨rfl, oc, hb_w7⟩; have hs_w7 := hb_w7.size; (try simp at hs_w7)))
  have OC := Lib.hid oc
  clear oc
  go_wp2_with ((go_at_call 35; (with_reducible refine ((kI _ _ _ ?_).out).mono ?_); (focus ((exact OC.out.runs); done)); rintro e w8 ⟨⟨q8, d8, rfl⟩, hb_w8⟩; have hs_w8 := hb_w8.size; (try simp at hs_w8)))
  go_wp2_with (first | (go_at_call 49; (with_reducible refine (eqInts_nil _ _ _ _ _).mono ?_); rintro e w9 ⟨rfl, hb_w9⟩; have hs_w9 := hb_w9.size; (try simp at hs_w9)) | (go_at_call 51; (with_reducible refine (heldInts_nil _ _ _).mono ?_); rintro e w' ⟨rfl, rfl⟩))
  go_ret
  exact ⟨rfl, (by repeat (first | assumption | exact Below.refl _ _ | (refine below_chain ?_ (by assumption) (by first | omega | (simp <;> omega) | simp)) | (refine Below.alloc ?_ (by first | omega | (simp <;> omega) | simp) _) | (apply below_drewN) | (apply below_drew) | (refine Below.setCell ?_ (by first | omega | (simp <;> omega) | simp) _)))⟩
theorem walk (w : World) (n : Int) (wn : (Lit.int .i64 n).wf = true) (p : Option Addr) (c : Nat) (rs : List Rn) (h : Runs w p rs) (hl : rs.length ≤ 9223372036854775807) :
    Calls Try.prog 11 #[.int .i64 n, .slice p rs.length c] w fun e w' => e = .returned (.bool true) ∧ Below w.heap.size w w' := by
  by_cases hl2 : rs.length ≤ 1048576
  · cases hy : nOk n rs
    · exact walk_no w n p c rs (Lib.hid h) hl2 hy
    · have h0 := (nOk_true hy).1
      obtain ⟨N, rfl⟩ : ∃ N : Nat, n = (N : Int) := ⟨n.toNat, by omega⟩
      exact walk_yes w N (N - 1) p c rs (Lib.hid h) hy (by omega)
  · have hl3 : (1048576 : Int) < (rs.length : Int) := by omega
    clear h wn
    go_enter Try.func11, Try.ntmps11
    go_wp2_with ((go_at_call 42; (with_reducible refine (szRuns _ _ _ _ hl).mono ?_); rintro e w' ⟨rfl, rfl⟩))
    go_ret
    exact ⟨rfl, (by repeat (first | assumption | exact Below.refl _ _ | (refine below_chain ?_ (by assumption) (by first | omega | (simp <;> omega) | simp)) | (refine Below.alloc ?_ (by first | omega | (simp <;> omega) | simp) _) | (apply below_drewN) | (apply below_drew) | (refine Below.setCell ?_ (by first | omega | (simp <;> omega) | simp) _)))⟩

set_option maxRecDepth 100000 in
theorem lifted (os : Os) (started : os.Started) (H : Type) (enc : TypeId × Value → H) :
    ReturnsInHanded {} Try.checked os 11 .any (Rows.fnExactNetSourceSpec.pre6 enc Try.prog Try.f11 Rows.fnExactNetSourceRow.domain false) (Rows.fnExactNetSourceSpec.post enc Try.prog Try.f11 false true false false) := by
  refine returnsInHanded_of_change (C := Try.checked) own started (by kernel_rfl) Try.func11
    (ChangeSpec.witness6 (enc := enc) (C := Try.checked) false ⟨#[], #[.int .i64 0, .slice none 0 0], []⟩ 8 (by kernel_rfl) (by kernel_rfl) (by kernel_rfl) (by kernel_rfl)) ?_
  intro W base args ds gs before hval0 hW hcnd _
  have hval : ∀ (j : Nat) t v, Try.f11.params[j]? = some t → args[j]? = some v → Value.okWide Try.prog W .any base t v := hval0
  have hW' := hW
  obtain ⟨p, q, hA0, hV, rfl, hfz, hnd⟩ := hW
  have hA : DataW.TrodAll enc Try.prog W 0 (fun _ => true) true Try.f11.params.toList args.toList ds p := hA0
  rw [Try.params11] at hA hval
  obtain ⟨v0, vs0, d0, ds0, p0, q0, hargs, rfl, rfl, h0, r0⟩ := trodAll_cons hA
  obtain ⟨v1, vs1, d1, ds1, p1, q1, rfl, rfl, rfl, h1, r1⟩ := trodAll_cons r0
  obtain ⟨rfl, rfl, rfl⟩ := trodAll_nil r1
  obtain rfl : args = #[v0, v1] := by cases args; simp_all
  obtain ⟨rfl, rfl⟩ := trodVars_none hV
  obtain ⟨a0, rfl, rfl, rfl, w0⟩ := open_int Try.underlying3 (hval 0 3 v0 rfl rfl) h0
  obtain ⟨a1, len1, cap1, rfl⟩ := okWide_slice Try.underlying54 (hval 1 54 v1 rfl rfl)
  have k1 := h1
  have lt1 : ∀ x ∈ p1, x.block < W.heap.size := by obtain ⟨m, hm⟩ := k1; exact DataW.trod_lt m _ _ _ hm
  obtain ⟨x1, e1, r1', l1⟩ := open_runs h1
  subst e1
  clear hA0 hval0
  refine (walk W a0 w0 a1 cap1 x1 r1' l1).mono fun e W' ⟨he, bel⟩ => ?_
  subst he
  exact ⟨_, rfl, _, _, _, [], _, [], hW', trodAll_mk1 (shut_bool Try.underlying4 _), (trodAll_cons_mk (shut_int Try.underlying3 w0) (trodAll_cons_mk (Below.trod laidOut (by kernel_rfl) (of_decide_eq_true (by kernel_rfl)) k1 bel lt1) trodAll_mk0)), rfl, bel.frame _, fun h => by cases h⟩

theorem over : Rows.fnExactNetSourceRow.holds Try.pinned (OpenSpec.ofChange Rows.fnExactNetSourceSpec) :=
  OpenClaim.holds_of_wide 11 Try.f11 rfl rfl rfl rfl rfl rfl rfl ⟨rfl, rfl, rfl, rfl, rfl⟩ rfl rfl rfl rfl rfl (by kernel_rfl) Try.func11 (by kernel_rfl)
    (of_decide_eq_true (by kernel_rfl)) (by unfold Func.isWrapper; first | (rw [if_pos (by decide +kernel)]; kernel_rfl) | (rw [if_neg (by decide +kernel)]; exact ⟨rfl, rfl⟩))
    (fun os started H enc _ => lifted os started H enc)

theorem proved : Rows.FnExactNetSourceSaid :=
  over
end Go.Proofs.Ytcfnlfldknadlaa.fnExactNetSource

