/-
  For every point and every list of points the law FnExactTravelPoints returns true: impl.TravelPoints answers the points of a traverse as the reference model does, in every field, leaves the list as it was, and its answer owns its memory. No condition: every two ints and every list are taken.
-/
import Derived.Test.YtgncjpakclbegaaOpP
import Derived.Test.YtgncjpakclbegaaHe
import Derived.Test.YtgncjpakclbegaaHh
namespace Go.Proofs.Ytgncjpakclbegaa.fnExactTravelPoints
open Go.ChangeShapes Go.WideShapes Go.ChangeAt Go.RowKit Poly
set_option linter.unusedVariables false

/-- a write to one block that is new -/
theorem below_grew {B g : Nat} {a w w' : World} (h : Below B a w) (hg : grew w w' g) (hB : B ≤ g) (hs : B ≤ w.heap.size) : Below B a w' := below_gr h hg.1 hB hs
theorem _root_.Go.Proofs.Ytgncjpakclbegaa.Own.ints2 {w : World} {g : Nat} {T : TypeId} {n cap : Nat} {xs : List Int} (h : Own w g T 2 n cap xs) : Ints w (some ⟨g, 0, none⟩) xs :=
  .inr ⟨g, 0, rfl, h.lt, fun i z hi => by rw [Nat.zero_add]; exact h.cells hi⟩

theorem kSof (zx zy : Int) (w : World) (p : Option Addr) (rs rt : List P2) (h : Ints w p (Poly.fl rs)) (hok : goT (zx, zy) rs = true) (ht : wayT (zx, zy) rs = rt) :
    Calls Try.prog 38 #[.agg #[.int .i64 zx, .int .i64 zy], .slice p rs.length rs.length] w fun e w' => ∃ g cap : Nat, e = .returned (.tuple #[.slice (some ⟨g, 0, none⟩) rt.length cap, .bool true]) ∧ w.heap.size ≤ g ∧ Own w' g 31 2 rt.length cap (Poly.fl rt) ∧ Below w.heap.size w w' := by
  subst ht
  rw [wayT_len]
  exact sTravelPoints_yes h rfl hok
theorem kIof (zx zy : Int) (w : World) (p : Option Addr) (rs rt : List P2) (h : Ints w p (Poly.fl rs)) (hok : goT (zx, zy) rs = true) (ht : wayT (zx, zy) rs = rt) :
    Calls Try.prog 37 #[.agg #[.int .i64 zx, .int .i64 zy], .slice p rs.length rs.length] w fun e w' => ∃ g cap : Nat, e = .returned (.tuple #[.slice (some ⟨g, 0, none⟩) rt.length cap, .bool true]) ∧ w.heap.size ≤ g ∧ Own w' g 31 2 rt.length cap (Poly.fl rt) ∧ Below w.heap.size w w' := by
  subst ht
  rw [wayT_len]
  exact iTravelPoints_yes h rfl hok
theorem grew_keep {w w' : World} {g b o : Nat} {v : Value} (hg : grew w w' g) (h : w.cell? ⟨b, o, none⟩ = some v) (hn : b ≠ g) : w'.cell? ⟨b, o, none⟩ = some v :=
  ((gcell hg.1).1 _ _ (World.block_lt_of_cell? w _ h) hn).trans h
set_option maxHeartbeats 8000000 in
theorem walk_yes (w : World) (zx zy : Int) (p : Option Addr) (c : Nat) (rs : List P2) (H : Hid (Ints w p (Poly.fl rs))) (hok : goT (zx, zy) rs = true) :
    Calls Try.prog 12 #[.agg #[.int .i64 zx, .int .i64 zy], .slice p rs.length c] w fun e w' => e = .returned (.bool true) ∧ Below w.heap.size w w' := by
  have htv : tvV rs = true := (goT_parts hok).1
  have hl := (tvV_len htv).2
  have hl3 : ¬ (1048576 : Int) < (rs.length : Int) := by omega
  have hl2 : rs.length ≤ 1048576 := by omega
  have hl4 : rs.length ≤ 4000000000000000000 := by omega
  have hl9 : rs.length ≤ 9223372036854775807 := by omega
  obtain ⟨rt, ht⟩ : ∃ rt, wayT (zx, zy) rs = rt := ⟨_, rfl⟩
  have hrl : rt.length = rs.length + 1 := by rw [← ht, wayT_len]
  have kS := fun w p h => Lib.hid (kSof zx zy w p rs rt h hok ht)
  have kI := fun w p h => Lib.hid (kIof zx zy w p rs rt h hok ht)
  have hn1 : ¬ (1 : Int) + (rs.length : Int) * 2 < 0 := by omega
  have hrt : rt.length ≤ 13 := by omega
  have hn2 : ¬ (1 : Int) + (rt.length : Int) * 2 < 0 := by omega
  clear hok ht hrl htv
  go_enter Try.func12, Try.ntmps12
  go_wp2_with ((go_at_call 48; (with_reducible refine (szPts _ _ _ _ hl9).mono ?_); rintro e w' ⟨rfl, rfl⟩))
  go_wp2_with ((go_at_call 53; (with_reducible refine (toPoint_any zx zy _).mono ?_); rintro e wt ⟨rfl, hb_wt⟩; have hs_wt := hb_wt.size; (try simp at hs_wt)); have z0 : wt.cell? ⟨w.heap.size, 0, none⟩ = some (.int .i64 zx) := (by obtain ⟨hc, hf⟩ := bcell hb_wt; rw [hc _ _ (by simp)]; simp [go_sem]); have z1 : wt.cell? ⟨w.heap.size, 1, none⟩ = some (.int .i64 zy) := (by obtain ⟨hc, hf⟩ := bcell hb_wt; rw [hc _ _ (by simp)]; simp [go_sem]); have u_wt : w.heap.size < wt.heap.size := (by omega))
  go_wp2_with ((go_at_call 50; (with_reducible refine (toPts p c rs _ ?_ hl2).mono ?_); (focus ((exact H.out.below (by repeat (first | assumption | exact Below.refl _ _ | (refine below_chain ?_ (by assumption) (by first | omega | (simp <;> omega) | simp)) | (refine Below.alloc ?_ (by first | omega | (simp <;> omega) | simp) _) | (apply below_drewN) | (apply below_drew) | (refine Below.setCell ?_ (by first | omega | (simp <;> omega) | simp) _)))); done)); rintro e wa ⟨rfl, oa, hb_wa⟩; have hs_wa := hb_wa.size; (try simp at hs_wa)); have z0 := cell_below_keep hb_wa z0; have z1 := cell_below_keep hb_wa z1)
  have OA := Lib.hid oa
  clear oa
  go_wp2_with ((go_at_call 38; (with_reducible refine ((kS _ _ ?_).out).mono ?_); (focus ((exact OA.out.pts); done)); rintro e ws ⟨gs, cs, rfl, hgs, os, hb_ws⟩; have hs_ws := hb_ws.size; (try simp at hs_ws)); have z0 := cell_below_keep hb_ws z0; have z1 := cell_below_keep hb_ws z1)
  have OS := Lib.hid os
  have hls := os.lt
  clear os
  go_wp2_with ((go_at_call 50; (with_reducible refine (toPts p c rs _ ?_ hl2).mono ?_); (focus ((exact H.out.below (by repeat (first | assumption | exact Below.refl _ _ | (refine below_chain ?_ (by assumption) (by first | omega | (simp <;> omega) | simp)) | (refine Below.alloc ?_ (by first | omega | (simp <;> omega) | simp) _) | (apply below_drewN) | (apply below_drew) | (refine Below.setCell ?_ (by first | omega | (simp <;> omega) | simp) _)))); done)); rintro e wb ⟨rfl, ob, hb_wb⟩; have hs_wb := hb_wb.size; (try simp at hs_wb)); have z0 := cell_below_keep hb_wb z0; have z1 := cell_below_keep hb_wb z1)
  have OB := Lib.hid ob
  have hlb := ob.lt
  clear ob
  go_wp2_with ((go_at_call 53; (with_reducible refine (toPoint_any zx zy _).mono ?_); rintro e wv ⟨rfl, hb_wv⟩; have hs_wv := hb_wv.size; (try simp at hs_wv)); have z0 := cell_below_keep hb_wv z0; have z1 := cell_below_keep hb_wv z1)
  go_wp2_with ((go_at_call 37; (with_reducible refine ((kI _ _ ?_).out).mono ?_); (focus ((exact (OB.out.below hb_wv).pts); done)); rintro e wi ⟨gi, ci, rfl, hgi, oi, hb_wi⟩; have hs_wi := hb_wi.size; (try simp at hs_wi)); have z0 := cell_below_keep hb_wi z0; have z1 := cell_below_keep hb_wi z1)
  have OI := Lib.hid oi
  have hli := oi.lt
  clear oi
  go_wp2_with ((go_at_call 52; (with_reducible refine (eqPts _ _ _ _ rt _ ?_ ?_ (by omega)).mono ?_); (focus ((exact OI.out.pts); done)); (focus ((exact (OS.out.below (by repeat (first | assumption | exact Below.refl _ _ | (refine below_chain ?_ (by assumption) (by first | omega | (simp <;> omega) | simp)) | (refine Below.alloc ?_ (by first | omega | (simp <;> omega) | simp) _) | (apply below_drewN) | (apply below_drew) | (refine Below.setCell ?_ (by first | omega | (simp <;> omega) | simp) _)))).pts); done)); rintro e w1 ⟨rfl, hb_w1⟩; have hs_w1 := hb_w1.size; (try simp at hs_w1)); have z0 := cell_below_keep hb_w1 z0; have z1 := cell_below_keep hb_w1 z1)
  go_wp2_with ((go_at_call 50; (with_reducible refine (toPts p c rs _ ?_ hl2).mono ?_); (focus ((exact H.out.below (by repeat (first | assumption | exact Below.refl _ _ | (refine below_chain ?_ (by assumption) (by first | omega | (simp <;> omega) | simp)) | (refine Below.alloc ?_ (by first | omega | (simp <;> omega) | simp) _) | (apply below_drewN) | (apply below_drew) | (refine Below.setCell ?_ (by first | omega | (simp <;> omega) | simp) _)))); done)); rintro e w2 ⟨rfl, oc, hb_w2⟩; have hs_w2 := hb_w2.size; (try simp at hs_w2)); have z0 := cell_below_keep hb_w2 z0; have z1 := cell_below_keep hb_w2 z1)
  have OC := Lib.hid oc
  clear oc
  go_wp2_with ((go_at_call 52; (with_reducible refine (eqPts _ _ _ _ rs _ ?_ ?_ hl4).mono ?_); (focus ((exact (OB.out.below (by repeat (first | assumption | exact Below.refl _ _ | (refine below_chain ?_ (by assumption) (by first | omega | (simp <;> omega) | simp)) | (refine Below.alloc ?_ (by first | omega | (simp <;> omega) | simp) _) | (apply below_drewN) | (apply below_drew) | (refine Below.setCell ?_ (by first | omega | (simp <;> omega) | simp) _)))).pts); done)); (focus ((exact OC.out.pts); done)); rintro e w3 ⟨rfl, hb_w3⟩; have hs_w3 := hb_w3.size; (try simp at hs_w3)); have z0 := cell_below_keep hb_w3 z0; have z1 := cell_below_keep hb_w3 z1)
  have OB3 := Lib.hid (OB.out.below (w' := w3) (by repeat (first | assumption | exact Below.refl _ _ | (refine below_chain ?_ (by assumption) (by first | omega | (simp <;> omega) | simp)) | (refine Below.alloc ?_ (by first | omega | (simp <;> omega) | simp) _) | (apply below_drewN) | (apply below_drew) | (refine Below.setCell ?_ (by first | omega | (simp <;> omega) | simp) _))))
  have OI3 := Lib.hid (OI.out.below (w' := w3) (by repeat (first | assumption | exact Below.refl _ _ | (refine below_chain ?_ (by assumption) (by first | omega | (simp <;> omega) | simp)) | (refine Below.alloc ?_ (by first | omega | (simp <;> omega) | simp) _) | (apply below_drewN) | (apply below_drew) | (refine Below.setCell ?_ (by first | omega | (simp <;> omega) | simp) _))))
  have OS3 := Lib.hid (OS.out.below (w' := w3) (by repeat (first | assumption | exact Below.refl _ _ | (refine below_chain ?_ (by assumption) (by first | omega | (simp <;> omega) | simp)) | (refine Below.alloc ?_ (by first | omega | (simp <;> omega) | simp) _) | (apply below_drewN) | (apply below_drew) | (refine Below.setCell ?_ (by first | omega | (simp <;> omega) | simp) _))))
  have hB3 : Below w.heap.size w w3 := (by repeat (first | assumption | exact Below.refl _ _ | (refine below_chain ?_ (by assumption) (by first | omega | (simp <;> omega) | simp)) | (refine Below.alloc ?_ (by first | omega | (simp <;> omega) | simp) _) | (apply below_drewN) | (apply below_drew) | (refine Below.setCell ?_ (by first | omega | (simp <;> omega) | simp) _)))
  have g1 : w.heap.size ≤ gs := by omega
  have g2 : gs < ws.heap.size := hls
  have g3 : ws.heap.size < gi := by omega
  have g4 : gi < w3.heap.size := by omega
  have g5 : w.heap.size ≤ ws.heap.size := by omega
  have g6 : w.heap.size ≤ w3.heap.size := by omega
  clear OC OA OB OI OS hb_wt hb_wv hb_wa hb_ws hb_wb hb_wi hb_w1 hb_w2 hb_w3
  go_wp2_with (go_at_call 54; (with_reducible refine (markPts _ _ _ _ _ OB3.out hl2).mono ?_); rintro e w4 ⟨rfl, om, hg4⟩; have hs4 := Nat.le_of_eq hg4.2; have hs4' := Nat.le_of_eq hg4.2.symm; have HG4 := Lib.hid hg4; clear hg4 om)
  have hB4 : Below w.heap.size w w4 := below_grew hB3 HG4.out (by omega) (by omega)
  have z0 := grew_keep HG4.out z0 (by omega)
  have z1 := grew_keep HG4.out z1 (by omega)
  have OI4 := Lib.hid (OI3.out.grown HG4.out.1 (by omega))
  have OS4 := Lib.hid (OS3.out.grown HG4.out.1 (by omega))
  clear OB3 OI3 OS3 hB3
  go_wp2_with ((go_at_call 52; (with_reducible refine (eqPts _ _ _ _ rt _ ?_ ?_ (by omega)).mono ?_); (focus ((exact OI4.out.pts); done)); (focus ((exact OS4.out.pts); done)); rintro e w5 ⟨rfl, hb_w5⟩; have hs_w5 := hb_w5.size; (try simp at hs_w5)); have z0 := cell_below_keep hb_w5 z0; have z1 := cell_below_keep hb_w5 z1)
  have OI5 := Lib.hid (OI4.out.below (w' := w5) (by repeat (first | assumption | exact Below.refl _ _ | (refine below_chain ?_ (by assumption) (by first | omega | (simp <;> omega) | simp)) | (refine Below.alloc ?_ (by first | omega | (simp <;> omega) | simp) _) | (apply below_drewN) | (apply below_drew) | (refine Below.setCell ?_ (by first | omega | (simp <;> omega) | simp) _))))
  have OS5 := Lib.hid (OS4.out.below (w' := w5) (by repeat (first | assumption | exact Below.refl _ _ | (refine below_chain ?_ (by assumption) (by first | omega | (simp <;> omega) | simp)) | (refine Below.alloc ?_ (by first | omega | (simp <;> omega) | simp) _) | (apply below_drewN) | (apply below_drew) | (refine Below.setCell ?_ (by first | omega | (simp <;> omega) | simp) _))))
  have hB5 : Below w.heap.size w w5 := (by repeat (first | assumption | exact Below.refl _ _ | (refine below_chain ?_ (by assumption) (by first | omega | (simp <;> omega) | simp)) | (refine Below.alloc ?_ (by first | omega | (simp <;> omega) | simp) _) | (apply below_drewN) | (apply below_drew) | (refine Below.setCell ?_ (by first | omega | (simp <;> omega) | simp) _)))
  clear OI4 OS4 hB4 hb_w5
  go_wp2_with (go_at_call 54; (with_reducible refine (markPts _ _ _ _ _ OI5.out (by omega)).mono ?_); rintro e w6 ⟨rfl, om, hg6⟩; have hs6 := Nat.le_of_eq hg6.2; have hs6' := Nat.le_of_eq hg6.2.symm; have HG6 := Lib.hid (And.intro hg6 om); clear hg6 om)
  have hB6 : Below w.heap.size w w6 := below_grew hB5 HG6.out.1 (by omega) (by omega)
  have z0 := grew_keep HG6.out.1 z0 (by omega)
  have z1 := grew_keep HG6.out.1 z1 (by omega)
  have OS6 := Lib.hid (OS5.out.grown HG6.out.1.1 (by omega))
  have OI6 := Lib.hid HG6.out.2
  clear OI5 OS5 hB5 HG6
  go_wp2_with (go_at_call 55; (with_reducible refine (heldPts _ _ _ _ OI6.out.ints2 (by omega)).mono ?_); rintro e w' ⟨rfl, rfl⟩)
  go_wp2_with ((go_at_call 53; (with_reducible refine (toPoint_any zx zy _).mono ?_); rintro e wu ⟨rfl, hb_wu⟩; have hs_wu := hb_wu.size; (try simp at hs_wu)); have z0 := cell_below_keep hb_wu z0; have z1 := cell_below_keep hb_wu z1)
  go_wp2_with ((go_at_call 50; (with_reducible refine (toPts p c rs _ ?_ hl2).mono ?_); (focus ((exact H.out.below (by repeat (first | assumption | exact Below.refl _ _ | (refine below_chain ?_ (by assumption) (by first | omega | (simp <;> omega) | simp)) | (refine Below.alloc ?_ (by first | omega | (simp <;> omega) | simp) _) | (apply below_drewN) | (apply below_drew) | (refine Below.setCell ?_ (by first | omega | (simp <;> omega) | simp) _)))); done)); rintro e w7 ⟨rfl, oc, hb_w7⟩; have hs_w7 := hb_w7.size; (try simp at hs_w7)); have z0 := cell_below_keep hb_w7 z0; have z1 := cell_below_keep hb_w7 z1)
  have OC := Lib.hid oc
  clear oc
  go_wp2_with ((go_at_call 37; (with_reducible refine ((kI _ _ ?_).out).mono ?_); (focus ((exact OC.out.pts); done)); rintro e w8 ⟨gj, cj, rfl, hgj, oj, hb_w8⟩; have hs_w8 := hb_w8.size; (try simp at hs_w8)); have z0 := cell_below_keep hb_w8 z0; have z1 := cell_below_keep hb_w8 z1)
  have OJ := Lib.hid oj
  clear oj
  go_wp2_with ((go_at_call 52; (with_reducible refine (eqPts _ _ _ _ rt _ ?_ ?_ (by omega)).mono ?_); (focus ((exact OJ.out.pts); done)); (focus ((exact (OS6.out.below (by repeat (first | assumption | exact Below.refl _ _ | (refine below_chain ?_ (by assumption) (by first | omega | (simp <;> omega) | simp)) | (refine Below.alloc ?_ (by first | omega | (simp <;> omega) | simp) _) | (apply below_drewN) | (apply below_drew) | (refine Below.setCell ?_ (by first | omega | (simp <;> omega) | simp) _)))).pts); done)); rintro e w9 ⟨rfl, hb_w9⟩; have hs_w9 := hb_w9.size; (try simp at hs_w9)); have z0 := cell_below_keep hb_w9 z0; have z1 := cell_below_keep hb_w9 z1)
  have OI9 := Lib.hid (OI6.out.below (w' := w9) (by repeat (first | assumption | exact Below.refl _ _ | (refine below_chain ?_ (by assumption) (by first | omega | (simp <;> omega) | simp)) | (refine Below.alloc ?_ (by first | omega | (simp <;> omega) | simp) _) | (apply below_drewN) | (apply below_drew) | (refine Below.setCell ?_ (by first | omega | (simp <;> omega) | simp) _))))
  go_wp2_with (go_at_call 55; (with_reducible refine (heldPts _ _ _ _ OI9.out.ints2 (by omega)).mono ?_); rintro e w' ⟨rfl, rfl⟩)
  go_ret
  exact ⟨rfl, (by repeat (first | assumption | exact Below.refl _ _ | (refine below_chain ?_ (by assumption) (by first | omega | (simp <;> omega) | simp)) | (refine Below.alloc ?_ (by first | omega | (simp <;> omega) | simp) _) | (apply below_drewN) | (apply below_drew) | (refine Below.setCell ?_ (by first | omega | (simp <;> omega) | simp) _)))⟩

theorem eqPts_nil (p q : Option Addr) (c d : Nat) (w : World) :
    Calls Try.prog 52 #[.slice p 0 c, .slice q 0 d] w fun e w' => e = .returned (.bool true) ∧ Below w.heap.size w w' := eqPts p q c d [] w (.inl rfl) (.inl rfl) (by simp)
set_option maxHeartbeats 8000000 in
theorem walk_no (w : World) (zx zy : Int) (p : Option Addr) (c : Nat) (rs : List P2) (H : Hid (Ints w p (Poly.fl rs))) (hl2 : rs.length ≤ 1048576) (hok : goT (zx, zy) rs = false) :
    Calls Try.prog 12 #[.agg #[.int .i64 zx, .int .i64 zy], .slice p rs.length c] w fun e w' => e = .returned (.bool true) ∧ Below w.heap.size w w' := by
  have hl3 : ¬ (1048576 : Int) < (rs.length : Int) := by omega
  have hl4 : rs.length ≤ 4000000000000000000 := by omega
  have hl9 : rs.length ≤ 9223372036854775807 := by omega
  have kS := fun w p h => Lib.hid (sTravelPoints_no (p := p) (c := rs.length) (w := w) (L := rs) h rfl hl4 hok)
  have kI := fun w p h => Lib.hid (iTravelPoints_no (p := p) (c := rs.length) (w := w) (L := rs) h rfl hok)
  have hn1 : ¬ (1 : Int) + (rs.length : Int) * 2 < 0 := by omega
  clear hok
  go_enter Try.func12, Try.ntmps12
  go_wp2_with ((go_at_call 48; (with_reducible refine (szPts _ _ _ _ hl9).mono ?_); rintro e w' ⟨rfl, rfl⟩))
  go_wp2_with ((go_at_call 53; (with_reducible refine (toPoint_any zx zy _).mono ?_); rintro e wt ⟨rfl, hb_wt⟩; have hs_wt := hb_wt.size; (try simp at hs_wt)); have z0 : wt.cell? ⟨w.heap.size, 0, none⟩ = some (.int .i64 zx) := (by obtain ⟨hc, hf⟩ := bcell hb_wt; rw [hc _ _ (by simp)]; simp [go_sem]); have z1 : wt.cell? ⟨w.heap.size, 1, none⟩ = some (.int .i64 zy) := (by obtain ⟨hc, hf⟩ := bcell hb_wt; rw [hc _ _ (by simp)]; simp [go_sem]); have u_wt : w.heap.size < wt.heap.size := (by omega))
  go_wp2_with ((go_at_call 50; (with_reducible refine (toPts p c rs _ ?_ hl2).mono ?_); (focus ((exact H.out.below (by repeat (first | assumption | exact Below.refl _ _ | (refine below_chain ?_ (by assumption) (by first | omega | (simp <;> omega) | simp)) | (refine Below.alloc ?_ (by first | omega | (simp <;> omega) | simp) _) | (apply below_drewN) | (apply below_drew) | (refine Below.setCell ?_ (by first | omega | (simp <;> omega) | simp) _)))); done)); rintro e wa ⟨rfl, oa, hb_wa⟩; have hs_wa := hb_wa.size; (try simp at hs_wa)); have z0 := cell_below_keep hb_wa z0; have z1 := cell_below_keep hb_wa z1)
  have OA := Lib.hid oa
  clear oa
  go_wp2_with ((go_at_call 38; (with_reducible refine ((kS _ _ ?_).out).mono ?_); (focus ((exact OA.out.pts); done)); rintro e ws ⟨gs, m0, cs, rfl, rfl, hb_ws⟩; have hs_ws := hb_ws.size; (try simp at hs_ws)); have z0 := cell_below_keep hb_ws z0; have z1 := cell_below_keep hb_ws z1)
  go_wp2_with ((go_at_call 50; (with_reducible refine (toPts p c rs _ ?_ hl2).mono ?_); (focus ((exact H.out.below (by repeat (first | assumption | exact Below.refl _ _ | (refine below_chain ?_ (by assumption) (by first | omega | (simp <;> omega) | simp)) | (refine Below.alloc ?_ (by first | omega | (simp <;> omega) | simp) _) | (apply below_drewN) | (apply below_drew) | (refine Below.setCell ?_ (by first | omega | (simp <;> omega) | simp) _)))); done)); rintro e wb ⟨rfl, ob, hb_wb⟩; have hs_wb := hb_wb.size; (try simp at hs_wb)); have z0 := cell_below_keep hb_wb z0; have z1 := cell_below_keep hb_wb z1)
  have OB := Lib.hid ob
  have hlb := ob.lt
  clear ob
  go_wp2_with ((go_at_call 53; (with_reducible refine (toPoint_any zx zy _).mono ?_); rintro e wv ⟨rfl, hb_wv⟩; have hs_wv := hb_wv.size; (try simp at hs_wv)); have z0 := cell_below_keep hb_wv z0; have z1 := cell_below_keep hb_wv z1)
  go_wp2_with ((go_at_call 37; (with_reducible refine ((kI _ _ ?_).out).mono ?_); (focus ((exact (OB.out.below hb_wv).pts); done)); rintro e wi ⟨rfl, hb_wi⟩; have hs_wi := hb_wi.size; (try simp at hs_wi)); have z0 := cell_below_keep hb_wi z0; have z1 := cell_below_keep hb_wi z1)
  go_wp2_with ((go_at_call 52; (with_reducible refine (eqPts_nil _ _ _ _ _).mono ?_); rintro e w1 ⟨rfl, hb_w1⟩; have hs_w1 := hb_w1.size; (try simp at hs_w1)); have z0 := cell_below_keep hb_w1 z0; have z1 := cell_below_keep hb_w1 z1)
  go_wp2_with ((go_at_call 50; (with_reducible refine (toPts p c rs _ ?_ hl2).mono ?_); (focus ((exact H.out.below (by repeat (first | assumption | exact Below.refl _ _ | (refine below_chain ?_ (by assumption) (by first | omega | (simp <;> omega) | simp)) | (refine Below.alloc ?_ (by first | omega | (simp <;> omega) | simp) _) | (apply below_drewN) | (apply below_drew) | (refine Below.setCell ?_ (by first | omega | (simp <;> omega) | simp) _)))); done)); rintro e w2 ⟨rfl, oc, hb_w2⟩; have hs_w2 := hb_w2.size; (try simp at hs_w2)); have z0 := cell_below_keep hb_w2 z0; have z1 := cell_below_keep hb_w2 z1)
  have OC := Lib.hid oc
  clear oc
  go_wp2_with ((go_at_call 52; (with_reducible refine (eqPts _ _ _ _ rs _ ?_ ?_ hl4).mono ?_); (focus ((exact (OB.out.below (by repeat (first | assumption | exact Below.refl _ _ | (refine below_chain ?_ (by assumption) (by first | omega | (simp <;> omega) | simp)) | (refine Below.alloc ?_ (by first | omega | (simp <;> omega) | simp) _) | (apply below_drewN) | (apply below_drew) | (refine Below.setCell ?_ (by first | omega | (simp <;> omega) | simp) _)))).pts); done)); (focus ((exact OC.out.pts); done)); rintro e w3 ⟨rfl, hb_w3⟩; have hs_w3 := hb_w3.size; (try simp at hs_w3)); have z0 := cell_below_keep hb_w3 z0; have z1 := cell_below_keep hb_w3 z1)
  have OB3 := Lib.hid (OB.out.below (w' := w3) (by repeat (first | assumption | exact Below.refl _ _ | (refine below_chain ?_ (by assumption) (by first | omega | (simp <;> omega) | simp)) | (refine Below.alloc ?_ (by first | omega | (simp <;> omega) | simp) _) | (apply below_drewN) | (apply below_drew) | (refine Below.setCell ?_ (by first | omega | (simp <;> omega) | simp) _))))
  have hB3 : Below w.heap.size w w3 := (by repeat (first | assumption | exact Below.refl _ _ | (refine below_chain ?_ (by assumption) (by first | omega | (simp <;> omega) | simp)) | (refine Below.alloc ?_ (by first | omega | (simp <;> omega) | simp) _) | (apply below_drewN) | (apply below_drew) | (refine Below.setCell ?_ (by first | omega | (simp <;> omega) | simp) _)))
  have g5 : w.heap.size ≤ ws.heap.size := by omega
  have g6 : w.heap.size ≤ w3.heap.size := by omega
  clear OC OA OB hb_wt hb_wv hb_wa hb_ws hb_wb hb_wi hb_w1 hb_w2 hb_w3
  go_wp2_with (go_at_call 54; (with_reducible refine (markPts _ _ _ _ _ OB3.out hl2).mono ?_); rintro e w4 ⟨rfl, om, hg4⟩; have hs4 := Nat.le_of_eq hg4.2; have hs4' := Nat.le_of_eq hg4.2.symm; have HG4 := Lib.hid hg4; clear hg4 om)
  have hB4 : Below w.heap.size w w4 := below_grew hB3 HG4.out (by omega) (by omega)
  have z0 := grew_keep HG4.out z0 (by omega)
  have z1 := grew_keep HG4.out z1 (by omega)
  clear OB3 hB3
  go_wp2_with ((go_at_call 52; (with_reducible refine (eqPts_nil _ _ _ _ _).mono ?_); rintro e w5 ⟨rfl, hb_w5⟩; have hs_w5 := hb_w5.size; (try simp at hs_w5)); have z0 := cell_below_keep hb_w5 z0; have z1 := cell_below_keep hb_w5 z1)
  go_wp2_with (first | (go_at_call 54; (with_reducible refine (markPts_nil _ _ _).mono ?_); rintro e w' ⟨rfl, rfl⟩) | (go_at_call 55; (with_reducible refine (heldPts_nil _ _ _).mono ?_); rintro e w' ⟨rfl, rfl⟩))
  go_wp2_with ((go_at_call 53; (with_reducible refine (toPoint_any zx zy _).mono ?_); rintro e wu ⟨rfl, hb_wu⟩; have hs_wu := hb_wu.size; (try simp at hs_wu)); have z0 := cell_below_keep hb_wu z0; have z1 := cell_below_keep hb_wu z1)
  go_wp2_with ((go_at_call 50; (with_reducible refine (toPts p c rs _ ?_ hl2).mono ?_); (focus ((exact H.out.below (by repeat (first | assumption | exact Below.refl _ _ | (refine below_chain ?_ (by assumption) (by first | omega | (simp <;> omega) | simp)) | (refine Below.alloc ?_ (by first | omega | (simp <;> omega) | simp) _) | (apply below_drewN) | (apply below_drew) | (refine Below.setCell ?_ (by first | omega | (simp <;> omega) | simp) _)))); done)); rintro e w7 ⟨rfl, oc, hb_w7⟩; have hs_w7 := hb_w7.size; (try simp at hs_w7)); have z0 := cell_below_keep hb_w7 z0; have z1 := cell_below_keep hb_w7 z1)
  have OC := Lib.hid oc
  clear oc
  go_wp2_with ((go_at_call 37; (with_reducible refine ((kI _ _ ?_).out).mono ?_); (focus ((exact OC.out.pts); done)); rintro e w8 ⟨rfl, hb_w8⟩; have hs_w8 := hb_w8.size; (try simp at hs_w8)); have z0 := cell_below_keep hb_w8 z0; have z1 := cell_below_keep hb_w8 z1)
  go_wp2_with (first | (go_at_call 52; (with_reducible refine (eqPts_nil _ _ _ _ _).mono ?_); rintro e w9 ⟨rfl, hb_w9⟩; have hs_w9 := hb_w9.size; (try simp at hs_w9)) | (go_at_call 55; (with_reducible refine (heldPts_nil _ _ _).mono ?_); rintro e w' ⟨rfl, rfl⟩))
  go_ret
  exact ⟨rfl, (by repeat (first | assumption | exact Below.refl _ _ | (refine below_chain ?_ (by assumption) (by first | omega | (simp <;> omega) | simp)) | (refine Below.alloc ?_ (by first | omega | (simp <;> omega) | simp) _) | (apply below_drewN) | (apply below_drew) | (refine Below.setCell ?_ (by first | omega | (simp <;> omega) | simp) _)))⟩
theorem walk (w : World) (zx zy : Int) (wz : (Lit.int .i64 zx).wf = true) (wy : (Lit.int .i64 zy).wf = true) (p : Option Addr) (c : Nat) (L : List P2) (h : Ints w p (Poly.fl L)) (hl : L.length ≤ 9223372036854775807) :
    Calls Try.prog 12 #[.agg #[.int .i64 zx, .int .i64 zy], .slice p L.length c] w fun e w' => e = .returned (.bool true) ∧ Below w.heap.size w w' := by
  by_cases hl2 : L.length ≤ 1048576
  · cases hok : goT (zx, zy) L
    · exact walk_no w zx zy p c L (Lib.hid h) hl2 hok
    · exact walk_yes w zx zy p c L (Lib.hid h) hok
  · have hl3 : (1048576 : Int) < (L.length : Int) := by omega
    clear h
    go_enter Try.func12, Try.ntmps12
    go_wp2_with ((go_at_call 48; (with_reducible refine (szPts _ _ _ _ hl).mono ?_); rintro e w' ⟨rfl, rfl⟩))
    go_ret
    exact ⟨rfl, (by repeat (first | assumption | exact Below.refl _ _ | (refine below_chain ?_ (by assumption) (by first | omega | (simp <;> omega) | simp)) | (refine Below.alloc ?_ (by first | omega | (simp <;> omega) | simp) _) | (apply below_drewN) | (apply below_drew) | (refine Below.setCell ?_ (by first | omega | (simp <;> omega) | simp) _)))⟩

set_option maxRecDepth 100000 in
theorem lifted (os : Os) (started : os.Started) (H : Type) (enc : TypeId × Value → H) :
    ReturnsInHanded {} Try.checked os 12 .any (Rows.fnExactTravelPointsSpec.pre6 enc Try.prog Try.f12 Rows.fnExactTravelPointsRow.domain false) (Rows.fnExactTravelPointsSpec.post enc Try.prog Try.f12 false true false false) := by
  refine returnsInHanded_of_change (C := Try.checked) own started (by kernel_rfl) Try.func12
    (ChangeSpec.witness6 (enc := enc) (C := Try.checked) false ⟨#[], #[.agg #[.int .i64 0, .int .i64 0], .slice none 0 0], []⟩ 8 (by kernel_rfl) (by kernel_rfl) (by kernel_rfl) (by kernel_rfl)) ?_
  intro W base args ds gs before hval0 hW hcnd _
  have hval : ∀ (j : Nat) t v, Try.f12.params[j]? = some t → args[j]? = some v → Value.okWide Try.prog W .any base t v := hval0
  have hW' := hW
  obtain ⟨p, q, hA0, hV, rfl, hfz, hnd⟩ := hW
  have hA : DataW.TrodAll enc Try.prog W 0 (fun _ => true) true Try.f12.params.toList args.toList ds p := hA0
  rw [Try.params12] at hA hval
  obtain ⟨v0, vs0, d0, ds0, p0, q0, hargs, rfl, rfl, h0, r0⟩ := trodAll_cons hA
  obtain ⟨v1, vs1, d1, ds1, p1, q1, rfl, rfl, rfl, h1, r1⟩ := trodAll_cons r0
  obtain ⟨rfl, rfl, rfl⟩ := trodAll_nil r1
  obtain rfl : args = #[v0, v1] := by cases args; simp_all
  obtain ⟨rfl, rfl⟩ := trodVars_none hV
  obtain ⟨a0, b0, rfl, rfl, rfl, w0, x0, s0⟩ := open_two Try.underlying52 (by kernel_rfl) (by kernel_rfl) Try.underlying3 rfl rfl (hval 0 52 v0 rfl rfl) h0
  obtain ⟨a1, len1, cap1, rfl⟩ := okWide_slice Try.underlying48 (hval 1 48 v1 rfl rfl)
  have k1 := h1
  have lt1 : ∀ x ∈ p1, x.block < W.heap.size := by obtain ⟨m, hm⟩ := k1; exact DataW.trod_lt m _ _ _ hm
  obtain ⟨x1, e1, r1', l1⟩ := open_pts h1
  subst e1
  clear hA0 hval0
  refine (walk W a0 b0 w0 x0 a1 cap1 x1 r1' l1).mono fun e W' ⟨he, bel⟩ => ?_
  subst he
  exact ⟨_, rfl, _, _, _, [], _, [], hW', trodAll_mk1 (shut_bool Try.underlying4 _), (trodAll_cons_mk (s0 _ _) (trodAll_cons_mk (Below.trod laidOut (by kernel_rfl) (of_decide_eq_true (by kernel_rfl)) k1 bel lt1) trodAll_mk0)), rfl, bel.frame _, fun h => by cases h⟩

theorem over : Rows.fnExactTravelPointsRow.holds Try.pinned (OpenSpec.ofChange Rows.fnExactTravelPointsSpec) :=
  OpenClaim.holds_of_wide 12 Try.f12 rfl rfl rfl rfl rfl rfl rfl ⟨rfl, rfl, rfl, rfl, rfl⟩ rfl rfl rfl rfl rfl (by kernel_rfl) Try.func12 (by unfold joinedFacts; rw [seat_enter, seat_lift, seat_make]; kernel_rfl)
    (of_decide_eq_true (by kernel_rfl)) (by unfold Func.isWrapper; first | (rw [if_pos (by decide +kernel)]; kernel_rfl) | (rw [if_neg (by decide +kernel)]; exact ⟨rfl, rfl⟩))
    (fun os started H enc _ => lifted os started H enc)

theorem proved : Rows.FnExactTravelPointsSaid :=
  over
end Go.Proofs.Ytgncjpakclbegaa.fnExactTravelPoints

