/-
  For every list of points and every two indexes the law FnExactParcelSplit returns true: impl.ParcelSplit answers the two parts of a parcel as the reference model does, in every field, leaves the list as it was, and its answers own their memory. No condition: every list and every two indexes are taken.
-/
import Derived.Test.YtegcjdcinebleaaOpP
import Derived.Test.YtegcjdcinebleaaYra
import Derived.Test.YtegcjdcinebleaaPky
import Derived.Test.YtegcjdcinebleaaPkv
namespace Go.Proofs.Ytegcjdcinebleaa.fnExactParcelSplit
open Go.ChangeShapes Go.WideShapes Go.ChangeAt Go.RowKit Poly
set_option linter.unusedVariables false

theorem below_grew {B g : Nat} {a w w' : World} (h : Below B a w) (hg : grew w w' g) (hB : B ≤ g) (hs : B ≤ w.heap.size) : Below B a w' := below_gr h hg.1 hB hs
theorem _root_.Go.Proofs.Ytegcjdcinebleaa.Own.ints2 {w : World} {g : Nat} {T : TypeId} {n cap : Nat} {xs : List Int} (h : Own w g T 2 n cap xs) : Ints w (some ⟨g, 0, none⟩) xs :=
  .inr ⟨g, 0, rfl, h.lt, fun i z hi => by rw [Nat.zero_add]; exact h.cells hi⟩
theorem eqPts_n {p q : Option Addr} {c d n : Nat} {L : List P2} {w : World} (hn : L.length = n) (hp : Ints w p (fl L)) (hq : Ints w q (fl L)) (hl : n ≤ 4000000000000000000) :
    Calls Try.prog 56 #[.slice p n c, .slice q n d] w fun e w' => e = .returned (.bool true) ∧ Below w.heap.size w w' := by
  subst hn; exact eqPts p q c d L w hp hq hl
set_option maxHeartbeats 2000000 in
theorem markPtsS (s : Int) (h0s : 0 ≤ s) (h1s : s ≤ 1000000) (g n cap : Nat) (xs : List Int) (w : World) (hp : Own w g 31 2 n cap xs) (hl : n ≤ 1000) :
    Calls Try.prog 57 #[.slice (some ⟨g, 0, none⟩) n cap, .int .i64 s] w fun e w' => e = .returned (.int .i64 (s + n * 2)) ∧ Own w' g 31 2 n cap (seqI s (n * 2)) ∧ grew w w' g := by
  have hx : xs.length = n * 2 := by have := hp.len; omega
  have h0 := Lib.hid hp
  clear hp
  go_enter Try.func57, Try.ntmps57
  go_wp2_with fail
  go_loopw [1, 5] (fun m i wr => ∃ k : Nat, k ≤ n ∧ i = .int .i64 k ∧ m = .int .i64 (s + k * 2) ∧ Own wr g 31 2 n cap (mkS s (k * 2) xs) ∧ grew w wr g) (fun _ i _ => n - (intOf i).toNat)
  case atStart => exact ⟨0, Nat.zero_le _, rfl, by simp, by rw [Nat.zero_mul, mkS_zero]; exact h0.out, grew.refl _ _⟩
  case round =>
    obtain ⟨k, hk, rfl, rfl, how, hbr⟩ := hrel
    have HO := Lib.hid how
    have HG := Lib.hid hbr
    by_cases hlt : k < n
    · have hf0 := how.frozen (k * 2)
      have hf1 := how.frozen (k * 2 + 1)
      have hlo := how.lt
      have hml := mkS_len (s := s) (k := k * 2) (xs := xs) (by omega)
      have hc0 := how.cells (i := k * 2) (z := ((mkS s (k * 2) xs)[k * 2]?).getD 0) (by rw [List.getElem?_eq_getElem (by omega)]; rfl)
      have hc1 := how.cells (i := k * 2 + 1) (z := ((mkS s (k * 2) xs)[k * 2 + 1]?).getD 0) (by rw [List.getElem?_eq_getElem (by omega)]; rfl)
      clear how hbr h0
      go_wp2_with fail
      go_roundw
      case rel =>
        refine ⟨k + 1, by omega, by go_num, by go_num, ?_, (HG.out.set _ _).set _ _⟩
        have h1 := HO.out.set (k * 2) (s + (k * 2 : Nat)) (by omega)
        rw [mkS_set (by omega)] at h1
        have h2 := h1.set (k * 2 + 1) (s + ((k * 2 + 1 : Nat) : Int)) (by rw [mkS_len (by omega)]; omega)
        rw [mkS_set (by omega)] at h2
        rw [show (k + 1) * 2 = k * 2 + 1 + 1 by omega]
        have e1 : (s + ((k * 2 : Nat) : Int)) = s + (k : Int) * 2 := by omega
        have e2 : (s + ((k * 2 + 1 : Nat) : Int)) = s + (k : Int) * 2 + 1 := by omega
        rw [e1, e2] at h2
        exact h2
      case measure => simp [intOf]; omega
    · have e : k = n := by omega
      subst e
      clear how hbr h0
      go_wp2_with fail
      go_ret
      exact ⟨rfl, by have := HO.out; rw [← hx, mkS_all] at this; rw [← hx]; exact this, HG.out⟩
set_option maxHeartbeats 2000000 in
theorem heldPtsS (s : Int) (h0s : 0 ≤ s) (h1s : s ≤ 1000000) (n c : Nat) (p : Option Addr) (w : World) (hp : Ints w p (seqI s (n * 2))) (hl : n ≤ 1000) :
    Calls Try.prog 58 #[.slice p n c, .int .i64 s] w fun e w' => e = .returned (.int .i64 (s + n * 2)) ∧ w = w' := by
  have h0 := Lib.hid hp
  clear hp
  go_enter Try.func58, Try.ntmps58
  go_wp2_with fail
  go_loopw [1, 5] (fun m i wr => ∃ k : Nat, k ≤ n ∧ i = .int .i64 k ∧ m = .int .i64 (s + k * 2) ∧ w = wr) (fun _ i _ => n - (intOf i).toNat)
  case atStart => exact ⟨0, Nat.zero_le _, rfl, by simp, rfl⟩
  case round =>
    obtain ⟨k, hk, rfl, rfl, rfl⟩ := hrel
    by_cases hlt : k < n
    · obtain ⟨B, o, z, rfl, hz, hB, hcx⟩ := h0.out.at (i := k * 2) (by rw [seqI_len]; omega)
      rw [seqI_at (by omega)] at hz
      cases hz
      obtain ⟨B', o', z', e', hz', hB', hcy⟩ := h0.out.at (i := k * 2 + 1) (by rw [seqI_len]; omega)
      simp at e'
      obtain ⟨rfl, rfl⟩ := e'
      rw [seqI_at (by omega)] at hz'
      cases hz'
      rw [← Nat.add_assoc] at hcy
      rw [show s + ((k * 2 : Nat) : Int) = s + (k : Int) * 2 by omega] at hcx
      rw [show s + ((k * 2 + 1 : Nat) : Int) = s + (k : Int) * 2 + 1 by omega] at hcy
      go_wp2_with fail
      go_roundw
      case rel => exact ⟨k + 1, by omega, by go_num, by go_num, by first | trivial | rfl⟩
      case measure => simp [intOf]; omega
    · have e : k = n := by omega
      subst e
      go_wp2_with fail
      go_ret
      exact ⟨rfl, rfl⟩
set_option maxHeartbeats 16000000 in
theorem walk_yes (w : World) (p : Option Addr) (c : Nat) (rs : List P2) (H : Hid (Ints w p (fl rs))) (i j : Nat) (hij : i < j) (hj : j < rs.length) (hv : parV rs = true) (hA : parV (splA rs i j) = true) (hB : parV (splB rs i j) = true) :
    Calls Try.prog 14 #[.slice p rs.length c, .int .i64 i, .int .i64 j] w fun e w' => e = .returned (.bool true) ∧ Below w.heap.size w w' := by
  have hl := (okP_len (parV_ok hv)).2
  have hl3 : ¬ (1048576 : Int) < (rs.length : Int) := by omega
  have hl2 : rs.length ≤ 1048576 := by omega
  have hl4 : rs.length ≤ 4000000000000000000 := by omega
  have hl9 : rs.length ≤ 9223372036854775807 := by omega
  have kS := fun w p h => Lib.hid (sSplit_yes (p := p) (c := rs.length) (w := w) (L := rs) h hv (Nat.le_refl _) i j hij hj hA hB)
  have kI := fun w p h => Lib.hid (iParcelSplit_yes (p := p) (c := rs.length) (w := w) (L := rs) h (Nat.le_refl _) hv i j hij hj hA hB)
  have hlA := splA_len (L := rs) hij hj
  have hlB := splB_len (L := rs) hij hj
  have hm1 : j - i + 1 ≤ 12 := by omega
  have hm2 : rs.length - j + i + 1 ≤ 12 := by omega
  generalize rs.length - j + i + 1 = m2 at *
  generalize j - i + 1 = m1 at *
  generalize splA rs i j = T at *
  generalize splB rs i j = U at *
  have HT := Lib.hid (And.intro hlA hlB)
  have hn1 : ¬ (1 : Int) + (rs.length : Int) * 2 < 0 := by omega
  have hn2 : ¬ (1 : Int) + (m1 : Int) * 2 < 0 := by omega
  have hn3 : ¬ (1 : Int) + (m1 : Int) * 2 + (m2 : Int) * 2 < 0 := by omega
  clear hv hA hB hlA hlB hij hj
  go_enter Try.func14, Try.ntmps14
  go_wp2_with ((go_at_call 54; (with_reducible refine (szPts _ _ _ _ hl9).mono ?_); rintro e w' ⟨rfl, rfl⟩))
  go_wp2_with ((go_at_call 55; (with_reducible refine (toPts p c rs _ ?_ hl2).mono ?_); (focus ((exact H.out.below (by repeat (first | assumption | exact Below.refl _ _ | (refine below_chain ?_ (by assumption) (by first | omega | (simp <;> omega) | simp)) | (refine Below.alloc ?_ (by first | omega | (simp <;> omega) | simp) _) | (apply below_drewN) | (apply below_drew) | (refine Below.setCell ?_ (by first | omega | (simp <;> omega) | simp) _)))); done)); rintro e wa ⟨rfl, oa, hb_wa⟩; have hs_wa := hb_wa.size; (try simp at hs_wa)))
  have OA := Lib.hid oa
  clear oa
  go_wp2_with ((go_at_call 39; (with_reducible refine ((kS _ _ ?_).out).mono ?_); (focus ((exact OA.out.pts); done)); rintro e ws ⟨gs, cs, gt, ct, rfl, hgs, ⟨os, ot⟩, hb_ws⟩; have hs_ws := hb_ws.size; (try simp at hs_ws)))
  have OS := Lib.hid os
  have OT := Lib.hid ot
  have hls := os.lt
  have hlt := ot.lt
  clear os ot
  go_wp2_with ((go_at_call 55; (with_reducible refine (toPts p c rs _ ?_ hl2).mono ?_); (focus ((exact H.out.below (by repeat (first | assumption | exact Below.refl _ _ | (refine below_chain ?_ (by assumption) (by first | omega | (simp <;> omega) | simp)) | (refine Below.alloc ?_ (by first | omega | (simp <;> omega) | simp) _) | (apply below_drewN) | (apply below_drew) | (refine Below.setCell ?_ (by first | omega | (simp <;> omega) | simp) _)))); done)); rintro e wb ⟨rfl, ob, hb_wb⟩; have hs_wb := hb_wb.size; (try simp at hs_wb)))
  have OB := Lib.hid ob
  have hlb := ob.lt
  clear ob
  go_wp2_with ((go_at_call 38; (with_reducible refine ((kI _ _ ?_).out).mono ?_); (focus ((exact OB.out.pts); done)); rintro e wi ⟨gi, ci, gk, ck, rfl, ⟨hgi, oi⟩, ⟨hgk, ok⟩, hne, hb_wi⟩; have hs_wi := hb_wi.size; (try simp at hs_wi)))
  have OI := Lib.hid oi
  have OK := Lib.hid ok
  have hli := oi.lt
  have hlk := ok.lt
  clear oi ok
  go_wp2_with (first | (go_at_call 56; (with_reducible refine (eqPts_n HT.out.1 ?_ ?_ (by omega)).mono ?_); (focus (((exact OI.out.pts)); done)); (focus (((exact (OS.out.below (by repeat (first | assumption | exact Below.refl _ _ | (refine below_chain ?_ (by assumption) (by first | omega | (simp <;> omega) | simp)) | (refine Below.alloc ?_ (by first | omega | (simp <;> omega) | simp) _) | (apply below_drewN) | (apply below_drew) | (refine Below.setCell ?_ (by first | omega | (simp <;> omega) | simp) _)))).pts)); done)); rintro e w1 ⟨rfl, hb_w1⟩; have hs_w1 := hb_w1.size; (try simp at hs_w1)))
  go_wp2_with (first | (go_at_call 56; (with_reducible refine (eqPts_n HT.out.2 ?_ ?_ (by omega)).mono ?_); (focus (((exact (OK.out.below (by repeat (first | assumption | exact Below.refl _ _ | (refine below_chain ?_ (by assumption) (by first | omega | (simp <;> omega) | simp)) | (refine Below.alloc ?_ (by first | omega | (simp <;> omega) | simp) _) | (apply below_drewN) | (apply below_drew) | (refine Below.setCell ?_ (by first | omega | (simp <;> omega) | simp) _)))).pts)); done)); (focus (((exact (OT.out.below (by repeat (first | assumption | exact Below.refl _ _ | (refine below_chain ?_ (by assumption) (by first | omega | (simp <;> omega) | simp)) | (refine Below.alloc ?_ (by first | omega | (simp <;> omega) | simp) _) | (apply below_drewN) | (apply below_drew) | (refine Below.setCell ?_ (by first | omega | (simp <;> omega) | simp) _)))).pts)); done)); rintro e w1b ⟨rfl, hb_w1b⟩; have hs_w1b := hb_w1b.size; (try simp at hs_w1b)))
  go_wp2_with ((go_at_call 55; (with_reducible refine (toPts p c rs _ ?_ hl2).mono ?_); (focus ((exact H.out.below (by repeat (first | assumption | exact Below.refl _ _ | (refine below_chain ?_ (by assumption) (by first | omega | (simp <;> omega) | simp)) | (refine Below.alloc ?_ (by first | omega | (simp <;> omega) | simp) _) | (apply below_drewN) | (apply below_drew) | (refine Below.setCell ?_ (by first | omega | (simp <;> omega) | simp) _)))); done)); rintro e w2 ⟨rfl, oc, hb_w2⟩; have hs_w2 := hb_w2.size; (try simp at hs_w2)))
  have OC := Lib.hid oc
  clear oc
  go_wp2_with ((go_at_call 56; (with_reducible refine (eqPts _ _ _ _ rs _ ?_ ?_ hl4).mono ?_); (focus ((exact (OB.out.below (by repeat (first | assumption | exact Below.refl _ _ | (refine below_chain ?_ (by assumption) (by first | omega | (simp <;> omega) | simp)) | (refine Below.alloc ?_ (by first | omega | (simp <;> omega) | simp) _) | (apply below_drewN) | (apply below_drew) | (refine Below.setCell ?_ (by first | omega | (simp <;> omega) | simp) _)))).pts); done)); (focus ((exact OC.out.pts); done)); rintro e w3 ⟨rfl, hb_w3⟩; have hs_w3 := hb_w3.size; (try simp at hs_w3)))
  have OB3 := Lib.hid (OB.out.below (w' := w3) (by repeat (first | assumption | exact Below.refl _ _ | (refine below_chain ?_ (by assumption) (by first | omega | (simp <;> omega) | simp)) | (refine Below.alloc ?_ (by first | omega | (simp <;> omega) | simp) _) | (apply below_drewN) | (apply below_drew) | (refine Below.setCell ?_ (by first | omega | (simp <;> omega) | simp) _))))
  have OI3 := Lib.hid (OI.out.below (w' := w3) (by repeat (first | assumption | exact Below.refl _ _ | (refine below_chain ?_ (by assumption) (by first | omega | (simp <;> omega) | simp)) | (refine Below.alloc ?_ (by first | omega | (simp <;> omega) | simp) _) | (apply below_drewN) | (apply below_drew) | (refine Below.setCell ?_ (by first | omega | (simp <;> omega) | simp) _))))
  have OK3 := Lib.hid (OK.out.below (w' := w3) (by repeat (first | assumption | exact Below.refl _ _ | (refine below_chain ?_ (by assumption) (by first | omega | (simp <;> omega) | simp)) | (refine Below.alloc ?_ (by first | omega | (simp <;> omega) | simp) _) | (apply below_drewN) | (apply below_drew) | (refine Below.setCell ?_ (by first | omega | (simp <;> omega) | simp) _))))
  have OS3 := Lib.hid (OS.out.below (w' := w3) (by repeat (first | assumption | exact Below.refl _ _ | (refine below_chain ?_ (by assumption) (by first | omega | (simp <;> omega) | simp)) | (refine Below.alloc ?_ (by first | omega | (simp <;> omega) | simp) _) | (apply below_drewN) | (apply below_drew) | (refine Below.setCell ?_ (by first | omega | (simp <;> omega) | simp) _))))
  have OT3 := Lib.hid (OT.out.below (w' := w3) (by repeat (first | assumption | exact Below.refl _ _ | (refine below_chain ?_ (by assumption) (by first | omega | (simp <;> omega) | simp)) | (refine Below.alloc ?_ (by first | omega | (simp <;> omega) | simp) _) | (apply below_drewN) | (apply below_drew) | (refine Below.setCell ?_ (by first | omega | (simp <;> omega) | simp) _))))
  have hB3 : Below w.heap.size w w3 := (by repeat (first | assumption | exact Below.refl _ _ | (refine below_chain ?_ (by assumption) (by first | omega | (simp <;> omega) | simp)) | (refine Below.alloc ?_ (by first | omega | (simp <;> omega) | simp) _) | (apply below_drewN) | (apply below_drew) | (refine Below.setCell ?_ (by first | omega | (simp <;> omega) | simp) _)))
  have g1 : w.heap.size ≤ gs ∧ w.heap.size ≤ gt := by omega
  have g2 : gs < ws.heap.size ∧ gt < ws.heap.size := ⟨hls, hlt⟩
  have g3 : ws.heap.size < gi ∧ ws.heap.size < gk := by omega
  have g4 : gi < w3.heap.size ∧ gk < w3.heap.size := by omega
  have g5 : w.heap.size ≤ ws.heap.size := by omega
  have g6 : w.heap.size ≤ w3.heap.size := by omega
  clear OC OA OB OI OK OS OT hb_wa hb_ws hb_wb hb_wi hb_w1 hb_w1b hb_w2 hb_w3
  go_wp2_with (go_at_call 57; (with_reducible refine (markPts _ _ _ _ _ OB3.out hl2).mono ?_); rintro e w4 ⟨rfl, om, hg4⟩; have hs4 := Nat.le_of_eq hg4.2; have hs4' := Nat.le_of_eq hg4.2.symm; have HG4 := Lib.hid hg4; clear hg4 om)
  have hB4 : Below w.heap.size w w4 := below_grew hB3 HG4.out (by omega) (by omega)
  have OI4 := Lib.hid (OI3.out.grown HG4.out.1 (by omega))
  have OK4 := Lib.hid (OK3.out.grown HG4.out.1 (by omega))
  have OS4 := Lib.hid (OS3.out.grown HG4.out.1 (by omega))
  have OT4 := Lib.hid (OT3.out.grown HG4.out.1 (by omega))
  clear OB3 OI3 OK3 OS3 OT3 hB3
  go_wp2_with (first | (go_at_call 56; (with_reducible refine (eqPts_n HT.out.1 ?_ ?_ (by omega)).mono ?_); (focus (((exact OI4.out.pts)); done)); (focus (((exact OS4.out.pts)); done)); rintro e w5a ⟨rfl, hb_w5a⟩; have hs_w5a := hb_w5a.size; (try simp at hs_w5a)))
  go_wp2_with (first | (go_at_call 56; (with_reducible refine (eqPts_n HT.out.2 ?_ ?_ (by omega)).mono ?_); (focus (((exact (OK4.out.below hb_w5a).pts)); done)); (focus (((exact (OT4.out.below hb_w5a).pts)); done)); rintro e w5 ⟨rfl, hb_w5⟩; have hs_w5 := hb_w5.size; (try simp at hs_w5)))
  have OI5 := Lib.hid ((OI4.out.below hb_w5a).below (w' := w5) hb_w5)
  have OK5 := Lib.hid ((OK4.out.below hb_w5a).below (w' := w5) hb_w5)
  have OS5 := Lib.hid ((OS4.out.below hb_w5a).below (w' := w5) hb_w5)
  have OT5 := Lib.hid ((OT4.out.below hb_w5a).below (w' := w5) hb_w5)
  have hB5 : Below w.heap.size w w5 := (by repeat (first | assumption | exact Below.refl _ _ | (refine below_chain ?_ (by assumption) (by first | omega | (simp <;> omega) | simp)) | (refine Below.alloc ?_ (by first | omega | (simp <;> omega) | simp) _) | (apply below_drewN) | (apply below_drew) | (refine Below.setCell ?_ (by first | omega | (simp <;> omega) | simp) _)))
  clear OI4 OK4 OS4 OT4 hB4 hb_w5 hb_w5a
  go_wp2_with (go_at_call 57; (with_reducible refine (markPts _ _ _ _ _ OI5.out (by omega)).mono ?_); rintro e w6 ⟨rfl, om, hg6⟩; have hs6 := Nat.le_of_eq hg6.2; have hs6' := Nat.le_of_eq hg6.2.symm; have HG6 := Lib.hid (And.intro hg6 om); clear hg6 om)
  have hB6 : Below w.heap.size w w6 := below_grew hB5 HG6.out.1 (by omega) (by omega)
  have OS6 := Lib.hid (OS5.out.grown HG6.out.1.1 (by omega))
  have OT6 := Lib.hid (OT5.out.grown HG6.out.1.1 (by omega))
  have OK6 := Lib.hid (OK5.out.grown HG6.out.1.1 (by omega))
  have OI6 := Lib.hid HG6.out.2
  clear OI5 OK5 OS5 OT5 hB5 HG6
  go_wp2_with (go_at_call 57; (with_reducible refine (markPtsS _ (by omega) (by omega) _ _ _ _ _ OK6.out (by omega)).mono ?_); rintro e w6b ⟨rfl, om, hg6⟩; have hs6b := Nat.le_of_eq hg6.2; have hs6b' := Nat.le_of_eq hg6.2.symm; have HG6 := Lib.hid (And.intro hg6 om); clear hg6 om)
  have hB7 : Below w.heap.size w w6b := below_grew hB6 HG6.out.1 (by omega) (by omega)
  have OS7 := Lib.hid (OS6.out.grown HG6.out.1.1 (by omega))
  have OT7 := Lib.hid (OT6.out.grown HG6.out.1.1 (by omega))
  have OI7 := Lib.hid (OI6.out.grown HG6.out.1.1 (by omega))
  have OK7 := Lib.hid HG6.out.2
  clear OI6 OK6 OS6 OT6 hB6 HG6
  go_wp2_with (first | (go_at_call 58; (with_reducible refine (heldPts _ _ _ _ OI7.out.ints2 (by omega)).mono ?_); rintro e w' ⟨rfl, rfl⟩) | (go_at_call 58; (with_reducible refine (heldPtsS _ (by omega) (by omega) _ _ _ _ OK7.out.ints2 (by omega)).mono ?_); rintro e w' ⟨rfl, rfl⟩))
  go_wp2_with ((go_at_call 55; (with_reducible refine (toPts p c rs _ ?_ hl2).mono ?_); (focus ((exact H.out.below (by repeat (first | assumption | exact Below.refl _ _ | (refine below_chain ?_ (by assumption) (by first | omega | (simp <;> omega) | simp)) | (refine Below.alloc ?_ (by first | omega | (simp <;> omega) | simp) _) | (apply below_drewN) | (apply below_drew) | (refine Below.setCell ?_ (by first | omega | (simp <;> omega) | simp) _)))); done)); rintro e w7 ⟨rfl, oc, hb_w7⟩; have hs_w7 := hb_w7.size; (try simp at hs_w7)))
  have OC := Lib.hid oc
  clear oc
  go_wp2_with ((go_at_call 38; (with_reducible refine ((kI _ _ ?_).out).mono ?_); (focus ((exact OC.out.pts); done)); rintro e w8 ⟨gj, cj, gl, cl, rfl, ⟨hgj, oj⟩, ⟨hgl, ol⟩, -, hb_w8⟩; have hs_w8 := hb_w8.size; (try simp at hs_w8)))
  have OJ := Lib.hid oj
  have OL := Lib.hid ol
  clear oj ol
  go_wp2_with (first | (go_at_call 56; (with_reducible refine (eqPts_n HT.out.1 ?_ ?_ (by omega)).mono ?_); (focus (((exact OJ.out.pts)); done)); (focus (((exact (OS7.out.below (by repeat (first | assumption | exact Below.refl _ _ | (refine below_chain ?_ (by assumption) (by first | omega | (simp <;> omega) | simp)) | (refine Below.alloc ?_ (by first | omega | (simp <;> omega) | simp) _) | (apply below_drewN) | (apply below_drew) | (refine Below.setCell ?_ (by first | omega | (simp <;> omega) | simp) _)))).pts)); done)); rintro e w9a ⟨rfl, hb_w9a⟩; have hs_w9a := hb_w9a.size; (try simp at hs_w9a)))
  go_wp2_with (first | (go_at_call 56; (with_reducible refine (eqPts_n HT.out.2 ?_ ?_ (by omega)).mono ?_); (focus (((exact (OL.out.below (by repeat (first | assumption | exact Below.refl _ _ | (refine below_chain ?_ (by assumption) (by first | omega | (simp <;> omega) | simp)) | (refine Below.alloc ?_ (by first | omega | (simp <;> omega) | simp) _) | (apply below_drewN) | (apply below_drew) | (refine Below.setCell ?_ (by first | omega | (simp <;> omega) | simp) _)))).pts)); done)); (focus (((exact (OT7.out.below (by repeat (first | assumption | exact Below.refl _ _ | (refine below_chain ?_ (by assumption) (by first | omega | (simp <;> omega) | simp)) | (refine Below.alloc ?_ (by first | omega | (simp <;> omega) | simp) _) | (apply below_drewN) | (apply below_drew) | (refine Below.setCell ?_ (by first | omega | (simp <;> omega) | simp) _)))).pts)); done)); rintro e w9 ⟨rfl, hb_w9⟩; have hs_w9 := hb_w9.size; (try simp at hs_w9)))
  have OI9 := Lib.hid (OI7.out.below (w' := w9) (by repeat (first | assumption | exact Below.refl _ _ | (refine below_chain ?_ (by assumption) (by first | omega | (simp <;> omega) | simp)) | (refine Below.alloc ?_ (by first | omega | (simp <;> omega) | simp) _) | (apply below_drewN) | (apply below_drew) | (refine Below.setCell ?_ (by first | omega | (simp <;> omega) | simp) _))))
  have OK9 := Lib.hid (OK7.out.below (w' := w9) (by repeat (first | assumption | exact Below.refl _ _ | (refine below_chain ?_ (by assumption) (by first | omega | (simp <;> omega) | simp)) | (refine Below.alloc ?_ (by first | omega | (simp <;> omega) | simp) _) | (apply below_drewN) | (apply below_drew) | (refine Below.setCell ?_ (by first | omega | (simp <;> omega) | simp) _))))
  go_wp2_with (first | (go_at_call 58; (with_reducible refine (heldPts _ _ _ _ OI9.out.ints2 (by omega)).mono ?_); rintro e w' ⟨rfl, rfl⟩) | (go_at_call 58; (with_reducible refine (heldPtsS _ (by omega) (by omega) _ _ _ _ OK9.out.ints2 (by omega)).mono ?_); rintro e w' ⟨rfl, rfl⟩))
  go_ret
  exact ⟨rfl, (by repeat (first | assumption | exact Below.refl _ _ | (refine below_chain ?_ (by assumption) (by first | omega | (simp <;> omega) | simp)) | (refine Below.alloc ?_ (by first | omega | (simp <;> omega) | simp) _) | (apply below_drewN) | (apply below_drew) | (refine Below.setCell ?_ (by first | omega | (simp <;> omega) | simp) _)))⟩
theorem eqPts_nil (p q : Option Addr) (c d : Nat) (w : World) :
    Calls Try.prog 56 #[.slice p 0 c, .slice q 0 d] w fun e w' => e = .returned (.bool true) ∧ Below w.heap.size w w' := eqPts p q c d [] w (.inl rfl) (.inl rfl) (by simp)
set_option maxHeartbeats 8000000 in
theorem walk_no (w : World) (p : Option Addr) (c : Nat) (rs : List P2) (H : Hid (Ints w p (fl rs))) (hl2 : rs.length ≤ 1048576) (i j : Int) (hno : splOk rs i j = false) :
    Calls Try.prog 14 #[.slice p rs.length c, .int .i64 i, .int .i64 j] w fun e w' => e = .returned (.bool true) ∧ Below w.heap.size w w' := by
  have hl3 : ¬ (1048576 : Int) < (rs.length : Int) := by omega
  have hl4 : rs.length ≤ 4000000000000000000 := by omega
  have hl9 : rs.length ≤ 9223372036854775807 := by omega
  have kS := fun w p h => Lib.hid (sSplit_no (p := p) (c := rs.length) (w := w) (L := rs) h (Nat.le_refl _) hl4 i j hno)
  have kI := fun w p h => Lib.hid (iParcelSplit_no (p := p) (c := rs.length) (w := w) (L := rs) h (Nat.le_refl _) hl4 i j hno)
  have hn1 : ¬ (1 : Int) + (rs.length : Int) * 2 < 0 := by omega
  clear hno
  go_enter Try.func14, Try.ntmps14
  go_wp2_with ((go_at_call 54; (with_reducible refine (szPts _ _ _ _ hl9).mono ?_); rintro e w' ⟨rfl, rfl⟩))
  go_wp2_with ((go_at_call 55; (with_reducible refine (toPts p c rs _ ?_ hl2).mono ?_); (focus ((exact H.out.below (by repeat (first | assumption | exact Below.refl _ _ | (refine below_chain ?_ (by assumption) (by first | omega | (simp <;> omega) | simp)) | (refine Below.alloc ?_ (by first | omega | (simp <;> omega) | simp) _) | (apply below_drewN) | (apply below_drew) | (refine Below.setCell ?_ (by first | omega | (simp <;> omega) | simp) _)))); done)); rintro e wa ⟨rfl, oa, hb_wa⟩; have hs_wa := hb_wa.size; (try simp at hs_wa)))
  have OA := Lib.hid oa
  clear oa
  go_wp2_with ((go_at_call 39; (with_reducible refine ((kS _ _ ?_).out).mono ?_); (focus ((exact OA.out.pts); done)); rintro e ws ⟨gs, cs, gt, ct, rfl, hgs, hb_ws⟩; have hs_ws := hb_ws.size; (try simp at hs_ws)))
  go_wp2_with ((go_at_call 55; (with_reducible refine (toPts p c rs _ ?_ hl2).mono ?_); (focus ((exact H.out.below (by repeat (first | assumption | exact Below.refl _ _ | (refine below_chain ?_ (by assumption) (by first | omega | (simp <;> omega) | simp)) | (refine Below.alloc ?_ (by first | omega | (simp <;> omega) | simp) _) | (apply below_drewN) | (apply below_drew) | (refine Below.setCell ?_ (by first | omega | (simp <;> omega) | simp) _)))); done)); rintro e wb ⟨rfl, ob, hb_wb⟩; have hs_wb := hb_wb.size; (try simp at hs_wb)))
  have OB := Lib.hid ob
  have hlb := ob.lt
  clear ob
  go_wp2_with ((go_at_call 38; (with_reducible refine ((kI _ _ ?_).out).mono ?_); (focus ((exact OB.out.pts); done)); rintro e wi ⟨rfl, hb_wi⟩; have hs_wi := hb_wi.size; (try simp at hs_wi)))
  go_wp2_with (first | (go_at_call 56; (with_reducible refine (eqPts_nil _ _ _ _ _).mono ?_); rintro e w1 ⟨rfl, hb_w1⟩; have hs_w1 := hb_w1.size; (try simp at hs_w1)))
  go_wp2_with ((go_at_call 55; (with_reducible refine (toPts p c rs _ ?_ hl2).mono ?_); (focus ((exact H.out.below (by repeat (first | assumption | exact Below.refl _ _ | (refine below_chain ?_ (by assumption) (by first | omega | (simp <;> omega) | simp)) | (refine Below.alloc ?_ (by first | omega | (simp <;> omega) | simp) _) | (apply below_drewN) | (apply below_drew) | (refine Below.setCell ?_ (by first | omega | (simp <;> omega) | simp) _)))); done)); rintro e w2 ⟨rfl, oc, hb_w2⟩; have hs_w2 := hb_w2.size; (try simp at hs_w2)))
  have OC := Lib.hid oc
  clear oc
  go_wp2_with ((go_at_call 56; (with_reducible refine (eqPts _ _ _ _ rs _ ?_ ?_ hl4).mono ?_); (focus ((exact (OB.out.below (by repeat (first | assumption | exact Below.refl _ _ | (refine below_chain ?_ (by assumption) (by first | omega | (simp <;> omega) | simp)) | (refine Below.alloc ?_ (by first | omega | (simp <;> omega) | simp) _) | (apply below_drewN) | (apply below_drew) | (refine Below.setCell ?_ (by first | omega | (simp <;> omega) | simp) _)))).pts); done)); (focus ((exact OC.out.pts); done)); rintro e w3 ⟨rfl, hb_w3⟩; have hs_w3 := hb_w3.size; (try simp at hs_w3)))
  have OB3 := Lib.hid (OB.out.below (w' := w3) (by repeat (first | assumption | exact Below.refl _ _ | (refine below_chain ?_ (by assumption) (by first | omega | (simp <;> omega) | simp)) | (refine Below.alloc ?_ (by first | omega | (simp <;> omega) | simp) _) | (apply below_drewN) | (apply below_drew) | (refine Below.setCell ?_ (by first | omega | (simp <;> omega) | simp) _))))
  have hB3 : Below w.heap.size w w3 := (by repeat (first | assumption | exact Below.refl _ _ | (refine below_chain ?_ (by assumption) (by first | omega | (simp <;> omega) | simp)) | (refine Below.alloc ?_ (by first | omega | (simp <;> omega) | simp) _) | (apply below_drewN) | (apply below_drew) | (refine Below.setCell ?_ (by first | omega | (simp <;> omega) | simp) _)))
  have g5 : w.heap.size ≤ ws.heap.size := by omega
  have g6 : w.heap.size ≤ w3.heap.size := by omega
  clear OC OA OB hb_wa hb_ws hb_wb hb_wi hb_w1 hb_w2 hb_w3
  go_wp2_with (go_at_call 57; (with_reducible refine (markPts _ _ _ _ _ OB3.out hl2).mono ?_); rintro e w4 ⟨rfl, om, hg4⟩; have hs4 := Nat.le_of_eq hg4.2; have hs4' := Nat.le_of_eq hg4.2.symm; have HG4 := Lib.hid hg4; clear hg4 om)
  have hB4 : Below w.heap.size w w4 := below_grew hB3 HG4.out (by omega) (by omega)
  clear OB3 hB3
  go_wp2_with (first | (go_at_call 56; (with_reducible refine (eqPts_nil _ _ _ _ _).mono ?_); rintro e w5 ⟨rfl, hb_w5⟩; have hs_w5 := hb_w5.size; (try simp at hs_w5)))
  go_wp2_with (first | (go_at_call 57; (with_reducible refine (markPts_nil _ _ _).mono ?_); rintro e w' ⟨rfl, rfl⟩) | (go_at_call 58; (with_reducible refine (heldPts_nil _ _ _).mono ?_); rintro e w' ⟨rfl, rfl⟩))
  go_wp2_with ((go_at_call 55; (with_reducible refine (toPts p c rs _ ?_ hl2).mono ?_); (focus ((exact H.out.below (by repeat (first | assumption | exact Below.refl _ _ | (refine below_chain ?_ (by assumption) (by first | omega | (simp <;> omega) | simp)) | (refine Below.alloc ?_ (by first | omega | (simp <;> omega) | simp) _) | (apply below_drewN) | (apply below_drew) | (refine Below.setCell ?_ (by first | omega | (simp <;> omega) | simp) _)))); done)); rintro e w7 ⟨rfl, oc, hb_w7⟩; have hs_w7 := hb_w7.size; (try simp at hs_w7)))
  have OC := Lib.hid oc
  clear oc
  go_wp2_with ((go_at_call 38; (with_reducible refine ((kI _ _ ?_).out).mono ?_); (focus ((exact OC.out.pts); done)); rintro e w8 ⟨rfl, hb_w8⟩; have hs_w8 := hb_w8.size; (try simp at hs_w8)))
  go_wp2_with (first | (go_at_call 56; (with_reducible refine (eqPts_nil _ _ _ _ _).mono ?_); rintro e w9 ⟨rfl, hb_w9⟩; have hs_w9 := hb_w9.size; (try simp at hs_w9)) | (go_at_call 58; (with_reducible refine (heldPts_nil _ _ _).mono ?_); rintro e w' ⟨rfl, rfl⟩))
  go_ret
  exact ⟨rfl, (by repeat (first | assumption | exact Below.refl _ _ | (refine below_chain ?_ (by assumption) (by first | omega | (simp <;> omega) | simp)) | (refine Below.alloc ?_ (by first | omega | (simp <;> omega) | simp) _) | (apply below_drewN) | (apply below_drew) | (refine Below.setCell ?_ (by first | omega | (simp <;> omega) | simp) _)))⟩
theorem walk (w : World) (p : Option Addr) (c : Nat) (L : List P2) (h : Ints w p (fl L)) (hl : L.length ≤ 9223372036854775807) (i : Int) (_ : (Lit.int .i64 i).wf = true) (j : Int) (_ : (Lit.int .i64 j).wf = true) :
    Calls Try.prog 14 #[.slice p L.length c, .int .i64 i, .int .i64 j] w fun e w' => e = .returned (.bool true) ∧ Below w.heap.size w w' := by
  by_cases hl2 : L.length ≤ 1048576
  · cases hs : splOk L i j
    · exact walk_no w p c L (Lib.hid h) hl2 i j hs
    · obtain ⟨I', J', rfl, rfl, hij, hj, hv, h1, h2⟩ := splOk_nat hs
      exact walk_yes w p c L (Lib.hid h) I' J' hij hj hv h1 h2
  · have hl3 : (1048576 : Int) < (L.length : Int) := by omega
    clear h
    go_enter Try.func14, Try.ntmps14
    go_wp2_with ((go_at_call 54; (with_reducible refine (szPts _ _ _ _ hl).mono ?_); rintro e w' ⟨rfl, rfl⟩))
    go_ret
    exact ⟨rfl, (by repeat (first | assumption | exact Below.refl _ _ | (refine below_chain ?_ (by assumption) (by first | omega | (simp <;> omega) | simp)) | (refine Below.alloc ?_ (by first | omega | (simp <;> omega) | simp) _) | (apply below_drewN) | (apply below_drew) | (refine Below.setCell ?_ (by first | omega | (simp <;> omega) | simp) _)))⟩

set_option maxRecDepth 100000 in
theorem lifted (os : Os) (started : os.Started) (H : Type) (enc : TypeId × Value → H) :
    ReturnsInHanded {} Try.checked os 14 .any (Rows.fnExactParcelSplitSpec.pre6 enc Try.prog Try.f14 Rows.fnExactParcelSplitRow.domain false) (Rows.fnExactParcelSplitSpec.post enc Try.prog Try.f14 false true false false) := by
  refine returnsInHanded_of_change (C := Try.checked) own started (by kernel_rfl) Try.func14
    (ChangeSpec.witness6 (enc := enc) (C := Try.checked) false ⟨#[], #[.slice none 0 0, .int .i64 0, .int .i64 0], []⟩ 8 (by kernel_rfl) (by kernel_rfl) (by kernel_rfl) (by kernel_rfl)) ?_
  intro W base args ds gs before hval0 hW hcnd _
  have hval : ∀ (j : Nat) t v, Try.f14.params[j]? = some t → args[j]? = some v → Value.okWide Try.prog W .any base t v := hval0
  have hW' := hW
  obtain ⟨p, q, hA0, hV, rfl, hfz, hnd⟩ := hW
  have hA : DataW.TrodAll enc Try.prog W 0 (fun _ => true) true Try.f14.params.toList args.toList ds p := hA0
  rw [Try.params14] at hA hval
  obtain ⟨v0, vs0, d0, ds0, p0, q0, hargs, rfl, rfl, h0, r0⟩ := trodAll_cons hA
  obtain ⟨v1, vs1, d1, ds1, p1, q1, rfl, rfl, rfl, h1, r1⟩ := trodAll_cons r0
  obtain ⟨v2, vs2, d2, ds2, p2, q2, rfl, rfl, rfl, h2, r2⟩ := trodAll_cons r1
  obtain ⟨rfl, rfl, rfl⟩ := trodAll_nil r2
  obtain rfl : args = #[v0, v1, v2] := by cases args; simp_all
  obtain ⟨rfl, rfl⟩ := trodVars_none hV
  obtain ⟨a0, len0, cap0, rfl⟩ := okWide_slice Try.underlying55 (hval 0 55 v0 rfl rfl)
  have k0 := h0
  have lt0 : ∀ x ∈ p0, x.block < W.heap.size := by obtain ⟨m, hm⟩ := k0; exact DataW.trod_lt m _ _ _ hm
  obtain ⟨x0, e0, r0', l0⟩ := open_pts h0
  subst e0
  obtain ⟨a1, rfl, rfl, rfl, w1⟩ := open_int Try.underlying3 (hval 1 3 v1 rfl rfl) h1
  obtain ⟨a2, rfl, rfl, rfl, w2⟩ := open_int Try.underlying3 (hval 2 3 v2 rfl rfl) h2
  clear hA0 hval0
  refine (walk W a0 cap0 x0 r0' l0 a1 w1 a2 w2).mono fun e W' ⟨he, bel⟩ => ?_
  subst he
  exact ⟨_, rfl, _, _, _, [], _, [], hW', trodAll_mk1 (shut_bool Try.underlying4 _), (trodAll_cons_mk (Below.trod laidOut (by kernel_rfl) (of_decide_eq_true (by kernel_rfl)) k0 bel lt0) (trodAll_cons_mk (shut_int Try.underlying3 w1) (trodAll_cons_mk (shut_int Try.underlying3 w2) trodAll_mk0))), rfl, bel.frame _, fun h => by cases h⟩

theorem over : Rows.fnExactParcelSplitRow.holds Try.pinned (OpenSpec.ofChange Rows.fnExactParcelSplitSpec) :=
  OpenClaim.holds_of_wide 14 Try.f14 rfl rfl rfl rfl rfl rfl rfl ⟨rfl, rfl, rfl, rfl, rfl⟩ rfl rfl rfl rfl rfl (by kernel_rfl) Try.func14 (by unfold joinedFacts; rw [seat_enter, seat_lift, seat_make]; kernel_rfl)
    (of_decide_eq_true (by kernel_rfl)) (by unfold Func.isWrapper; first | (rw [if_pos (by decide +kernel)]; kernel_rfl) | (rw [if_neg (by decide +kernel)]; exact ⟨rfl, rfl⟩))
    (fun os started H enc _ => lifted os started H enc)

theorem proved : Rows.FnExactParcelSplitSaid :=
  over
end Go.Proofs.Ytegcjdcinebleaa.fnExactParcelSplit

