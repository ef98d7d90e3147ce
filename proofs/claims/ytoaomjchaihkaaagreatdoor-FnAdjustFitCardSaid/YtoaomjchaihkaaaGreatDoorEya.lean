/-
  The program's weighted squares of rests, and AdjustSum.
-/
import Derived.Test.YtoaomjchaihkaaaGreatDoorEw
import Derived.Test.YtoaomjchaihkaaaGreatDoorEgz
namespace Go.Proofs.YtoaomjchaihkaaaGreatDoor
open Go.RowKit
set_option linter.unusedVariables false

theorem g_comm (t l s m a b : Int) : Quo.gT (Quo.both t l s m) a b = Quo.gT (Quo.both s m t l) a b ∧ Quo.gL (Quo.both t l s m) a b = Quo.gL (Quo.both s m t l) a b ∧ Quo.gOk (Quo.both t l s m) a b = Quo.gOk (Quo.both s m t l) a b := by
  have e : Quo.both t l s m = Quo.both s m t l := by unfold Quo.both; rw [Bool.and_comm]
  rw [e]; exact ⟨rfl, rfl, rfl⟩
set_option maxHeartbeats 4000000 in
set_option maxRecDepth 100000 in
theorem iSquare (n : Int) (k : Nat) (p : Option Addr) (c m : Nat) (rs : List Rn) (r : Rn) (a b : Int) (P : Bool) (w : World) (h : RunsE w p rs) (hm : rs.length = m) (hr : rs[k]? = some r)
    (c1 : ∀ w, RunsE w p rs → Hid (Calls Tryz.prog 25 #[.int .i64 n, .slice p m c, .int .i64 k] w fun e w' => e = .returned (.tuple #[.agg #[.int .i64 a, .int .i64 b], .bool P]) ∧ Below w.heap.size w w')) :
    Calls Tryz.prog 45 #[.int .i64 n, .slice p m c, .int .i64 k] w fun e w' => ∃ u v, e = .returned (.tuple #[.agg #[.int .i64 u, .int .i64 v], .bool (P && sqK a b r.g)]) ∧ ((P && sqK a b r.g) = true → u = sqT a b r.g ∧ v = sqL a b r.g) ∧ Below w.heap.size w w' := by
  have hkm : k < m := by rw [← hm]; exact (List.getElem?_eq_some_iff.1 hr).1
  have hkm' : (k : Int) < (m : Int) := by omega
  obtain ⟨B, o, r', rfl, hr', hB, e1, e2, e3, e4⟩ := h.runs.at (i := k) (by omega)
  obtain rfl : r = r' := by rw [hr] at hr'; cases hr'; rfl
  have H := Lib.hid h
  clear h hr hr' e1 e2 e3 hm
  cases P
  · clear e4
    go_enter Tryz.func45, Tryz.ntmps45
    go_upto_region 3 with ((go_at_call 25; (with_reducible refine ((c1 _ ?_).out).mono ?_); (focus ((exact H.out.below (by repeat (first | assumption | exact Below.refl _ _ | (refine below_chain ?_ (by assumption) (by first | omega | (simp <;> omega) | simp)) | (refine Below.alloc ?_ (by first | omega | (simp <;> omega) | simp) _) | (apply below_drewN) | (apply below_drew) | (refine Below.setCell ?_ (by first | omega | (simp <;> omega) | simp) _)))); done)); rintro e wa ⟨rfl, hb_wa⟩; have hs_wa := hb_wa.size; (try simp at hs_wa)))
    obtain ⟨q1, q2, q3, q4⟩ := res_cell hb_wa
    have hBa : Below w.heap.size w wa := (by repeat (first | assumption | exact Below.refl _ _ | (refine below_chain ?_ (by assumption) (by first | omega | (simp <;> omega) | simp)) | (refine Below.alloc ?_ (by first | omega | (simp <;> omega) | simp) _) | (apply below_drewN) | (apply below_drew) | (refine Below.setCell ?_ (by first | omega | (simp <;> omega) | simp) _)))
    have hsa : w.heap.size < wa.heap.size := World.block_lt_of_cell? wa _ q1
    go_wp2_with fail
    have hB9 : Below w.heap.size w (((wa.setCell ⟨w.heap.size, 0, none⟩ (.int .i64 0)).setCell ⟨w.heap.size, 1, none⟩ (.int .i64 0)).alloc (.cells #[.int .i64 a, .int .i64 b] 36)) := ((hBa.setCell (Nat.le_refl _) _).setCell (Nat.le_refl _) _).alloc (by simp; omega) _
    have z1 : (((wa.setCell ⟨w.heap.size, 0, none⟩ (.int .i64 0)).setCell ⟨w.heap.size, 1, none⟩ (.int .i64 0)).alloc (.cells #[.int .i64 a, .int .i64 b] 36)).cell? ⟨w.heap.size, 0, none⟩ = some (.int .i64 0) := cell_below_keep ((Below.refl _ _).alloc (Nat.le_refl _) _) (by simp [go_sem, q1])
    have z2 : (((wa.setCell ⟨w.heap.size, 0, none⟩ (.int .i64 0)).setCell ⟨w.heap.size, 1, none⟩ (.int .i64 0)).alloc (.cells #[.int .i64 a, .int .i64 b] 36)).cell? ⟨w.heap.size, 1, none⟩ = some (.int .i64 0) := cell_below_keep ((Below.refl _ _).alloc (Nat.le_refl _) _) (by simp [go_sem, q2])
    obtain ⟨W, hW⟩ : ∃ W, W = ((wa.setCell ⟨w.heap.size, 0, none⟩ (.int .i64 0)).setCell ⟨w.heap.size, 1, none⟩ (.int .i64 0)).alloc (.cells #[.int .i64 a, .int .i64 b] 36) := ⟨_, rfl⟩
    rw [← hW] at hB9 z1 z2 ⊢
    refine bodyPost_ret (v := .tuple #[.agg #[.int .i64 0, .int .i64 0], .bool false]) (by simp [results, Tryz.results45, go_sem, z1, z2]) rfl ⟨0, 0, rfl, (fun hc => by cases hc), hB9⟩
  · have c2 := fun w => Lib.hid (iTimes_any a b a b w)
    have hA : Quo.gT (Quo.both a b a b) (a * a) (b * b) = sqA a b := rfl
    have hB' : Quo.gL (Quo.both a b a b) (a * a) (b * b) = sqB a b := rfl
    have hO : Quo.gOk (Quo.both a b a b) (a * a) (b * b) = sqO a b := rfl
    rw [hA, hB', hO] at c2
    obtain ⟨a2, ha2⟩ : ∃ x, sqA a b = x := ⟨_, rfl⟩
    obtain ⟨b2, hb2⟩ : ∃ x, sqB a b = x := ⟨_, rfl⟩
    have c3 := fun w => Lib.hid (by have := iTimes_any r.g 1 a2 b2 w; rw [(g_comm r.g 1 a2 b2 _ _).1, (g_comm r.g 1 a2 b2 _ _).2.1, (g_comm r.g 1 a2 b2 _ _).2.2, Int.mul_comm r.g a2, Int.mul_comm 1 b2] at this; exact this)
    have hsK : sqK a b r.g = if sqO a b = true then Quo.gOk (Quo.both a2 b2 r.g 1) (a2 * r.g) (b2 * 1) else false := by unfold sqK; rw [ha2, hb2]
    have hsT : sqO a b = true → sqT a b r.g = Quo.gT (Quo.both a2 b2 r.g 1) (a2 * r.g) (b2 * 1) := fun ho => by unfold sqT; rw [if_pos ho, ha2, hb2]
    have hsL : sqO a b = true → sqL a b r.g = Quo.gL (Quo.both a2 b2 r.g 1) (a2 * r.g) (b2 * 1) := fun ho => by unfold sqL; rw [if_pos ho, ha2, hb2]
    rw [ha2, hb2] at c2
    obtain ⟨X, hX⟩ : ∃ X, Quo.gT (Quo.both a2 b2 r.g 1) (a2 * r.g) (b2 * 1) = X := ⟨_, rfl⟩
    obtain ⟨Y, hY⟩ : ∃ Y, Quo.gL (Quo.both a2 b2 r.g 1) (a2 * r.g) (b2 * 1) = Y := ⟨_, rfl⟩
    obtain ⟨Z, hZ⟩ : ∃ Z, Quo.gOk (Quo.both a2 b2 r.g 1) (a2 * r.g) (b2 * 1) = Z := ⟨_, rfl⟩
    rw [hX, hY, hZ] at c3
    rw [hX] at hsT
    rw [hY] at hsL
    rw [hZ] at hsK
    obtain ⟨O, hOe⟩ : ∃ O, sqO a b = O := ⟨_, rfl⟩
    rw [hOe] at c2 hsK hsT hsL
    have HS := Lib.hid (And.intro hsK (And.intro hsT hsL))
    clear hA hB' hO ha2 hb2 hX hY hZ hOe hsK hsT hsL
    cases O
    · clear c3 e4
      have hK : sqK a b r.g = false := HS.out.1
      have HK := Lib.hid hK
      clear hK
      go_enter Tryz.func45, Tryz.ntmps45
      go_upto_region 4 with ((go_at_call 25; (with_reducible refine ((c1 _ ?_).out).mono ?_); (focus ((exact H.out.below (by repeat (first | assumption | exact Below.refl _ _ | (refine below_chain ?_ (by assumption) (by first | omega | (simp <;> omega) | simp)) | (refine Below.alloc ?_ (by first | omega | (simp <;> omega) | simp) _) | (apply below_drewN) | (apply below_drew) | (refine Below.setCell ?_ (by first | omega | (simp <;> omega) | simp) _)))); done)); rintro e wa ⟨rfl, hb_wa⟩; have hs_wa := hb_wa.size; (try simp at hs_wa)))
      have hR : Cell2 wa w.heap.size 0 0 := res_cell hb_wa
      have hBa : Below w.heap.size w wa := (by repeat (first | assumption | exact Below.refl _ _ | (refine below_chain ?_ (by assumption) (by first | omega | (simp <;> omega) | simp)) | (refine Below.alloc ?_ (by first | omega | (simp <;> omega) | simp) _) | (apply below_drewN) | (apply below_drew) | (refine Below.setCell ?_ (by first | omega | (simp <;> omega) | simp) _)))
      have hsa := hBa.size
      have hX1 := Cell2.new wa a b 36
      have hal : Below wa.heap.size wa (wa.alloc (.cells #[.int .i64 a, .int .i64 b] 36)) := (Below.refl _ _).alloc (Nat.le_refl _) _
      have hRV := hR.below hal
      have hBV := hBa.trans (hal.mono hsa)
      have hRlt := hR.lt
      obtain ⟨V, hV⟩ : ∃ V, V = wa.alloc (.cells #[.int .i64 a, .int .i64 b] 36) := ⟨_, rfl⟩
      obtain ⟨xx, hXe⟩ : ∃ x, x = wa.heap.size := ⟨_, rfl⟩
      rw [← hV] at hX1 hBV hRV ⊢
      rw [← hXe] at hX1 hRlt ⊢
      have HV := Lib.hid (And.intro hRV (And.intro hX1 hBV))
      have hsV := hBV.size
      obtain ⟨x1, x2, x3, x4⟩ := hX1
      clear hal hV hXe hb_wa hs_wa hR hRV hBa hBV c1
      go_upto_region 6 with ((go_at_call 88; (with_reducible refine ((c2 _).out).mono ?_); rintro e wb ⟨rfl, hb_wb⟩; have hs_wb := hb_wb.size; (try simp at hs_wb)))
      have hal : Below V.heap.size V (wb.alloc (.cells #[.int .i64 a2, .int .i64 b2] 36)) := hb_wb.alloc hs_wb _
      have hRU := HV.out.1.below hal
      have hBU := HV.out.2.2.trans (hal.mono hsV)
      obtain ⟨U, hU⟩ : ∃ U, U = wb.alloc (.cells #[.int .i64 a2, .int .i64 b2] 36) := ⟨_, rfl⟩
      rw [← hU] at hRU hBU ⊢
      have HB := Lib.hid hBU
      obtain ⟨q1, q2, q3, q4⟩ := hRU
      clear hal hU hBU HV x1 x2 x3 x4 hb_wb hs_wb
      go_wp2_with fail
      refine bodyPost_ret (v := .tuple #[.agg #[.int .i64 0, .int .i64 0], .bool false]) (by simp [results, Tryz.results45, go_sem, q1, q2]) rfl ⟨0, 0, (by rw [HK.out]; rfl), (fun hc => by rw [HK.out] at hc; cases hc), (HB.out.setCell (Nat.le_refl _) _).setCell (Nat.le_refl _) _⟩
    · have hK : sqK a b r.g = Z := HS.out.1
      have hT := HS.out.2.1 rfl
      have hL := HS.out.2.2 rfl
      rw [hK, hT, hL]
      clear hK hT hL HS
      go_enter Tryz.func45, Tryz.ntmps45
      go_upto_region 4 with ((go_at_call 25; (with_reducible refine ((c1 _ ?_).out).mono ?_); (focus ((exact H.out.below (by repeat (first | assumption | exact Below.refl _ _ | (refine below_chain ?_ (by assumption) (by first | omega | (simp <;> omega) | simp)) | (refine Below.alloc ?_ (by first | omega | (simp <;> omega) | simp) _) | (apply below_drewN) | (apply below_drew) | (refine Below.setCell ?_ (by first | omega | (simp <;> omega) | simp) _)))); done)); rintro e wa ⟨rfl, hb_wa⟩; have hs_wa := hb_wa.size; (try simp at hs_wa)))
      have d0 := e4
      have hR : Cell2 wa w.heap.size 0 0 := res_cell hb_wa
      have hBa : Below w.heap.size w wa := (by repeat (first | assumption | exact Below.refl _ _ | (refine below_chain ?_ (by assumption) (by first | omega | (simp <;> omega) | simp)) | (refine Below.alloc ?_ (by first | omega | (simp <;> omega) | simp) _) | (apply below_drewN) | (apply below_drew) | (refine Below.setCell ?_ (by first | omega | (simp <;> omega) | simp) _)))
      have hsa := hBa.size
      have hX1 := Cell2.new wa a b 36
      have hal : Below wa.heap.size wa (wa.alloc (.cells #[.int .i64 a, .int .i64 b] 36)) := (Below.refl _ _).alloc (Nat.le_refl _) _
      have hRV := hR.below hal
      have d4 := cell_below_keep (hBa.trans (hal.mono hsa)) e4
      have hBV := hBa.trans (hal.mono hsa)
      have hRlt := hR.lt
      obtain ⟨V, hV⟩ : ∃ V, V = wa.alloc (.cells #[.int .i64 a, .int .i64 b] 36) := ⟨_, rfl⟩
      obtain ⟨xx, hXe⟩ : ∃ x, x = wa.heap.size := ⟨_, rfl⟩
      rw [← hV] at hX1 hBV hRV d4 ⊢
      rw [← hXe] at hX1 hRlt ⊢
      have HV := Lib.hid (And.intro hRV (And.intro hX1 hBV))
      have hsV := hBV.size
      obtain ⟨x1, x2, x3, x4⟩ := hX1
      clear hal hV hXe hb_wa hs_wa hR hRV hBa hBV c1
      go_upto_region 7 with ((go_at_call 88; (with_reducible refine ((c2 _).out).mono ?_); rintro e wb ⟨rfl, hb_wb⟩; have hs_wb := hb_wb.size; (try simp at hs_wb)))
      have hal : Below V.heap.size V (wb.alloc (.cells #[.int .i64 a2, .int .i64 b2] 36)) := hb_wb.alloc hs_wb _
      have hRU := HV.out.1.below hal
      have hBU := HV.out.2.2.trans (hal.mono hsV)
      have m5 := cell_below_keep hal d4
      have hY1 := Cell2.new wb a2 b2 36
      obtain ⟨U, hU⟩ : ∃ U, U = wb.alloc (.cells #[.int .i64 a2, .int .i64 b2] 36) := ⟨_, rfl⟩
      obtain ⟨yy, hYe⟩ : ∃ x, x = wb.heap.size := ⟨_, rfl⟩
      have hyw : w.heap.size < yy := by have := HV.out.1.lt; omega
      rw [← hU] at hRU hBU m5 hY1 ⊢
      rw [← hYe] at hY1 ⊢
      have HB := Lib.hid hBU
      have hsU := hBU.size
      obtain ⟨m1, m2, m3, m4⟩ := hRU
      obtain ⟨m6, m7, m8, m9⟩ := hY1
      have hRw : ¬ yy = w.heap.size := by omega
      have hwR : ¬ w.heap.size = yy := by omega
      have hB1 : ¬ B = w.heap.size := by omega
      have hB2 : ¬ w.heap.size = B := by omega
      clear hal hU hBU HV x1 x2 x3 x4 hb_wb hs_wb hYe d4 d0 e4 c2
      go_region_held3 (fun W => W.cell? ⟨yy, 0, none⟩ = some (.int .i64 a2) ∧ W.cell? ⟨yy, 1, none⟩ = some (.int .i64 b2) ∧ W.cell? ⟨B, o + k * 4 + 3, none⟩ = some (.int .i64 r.g)) (first | (go_keep; done) | ((with_reducible refine cell_below_keep (by with_reducible assumption) ?_); with_reducible assumption))
        (first | (go_at_call 88; (with_reducible refine ((c3 _).out).mono ?_); rintro e w2 ⟨rfl, hb_w2⟩; have l1 := cell_below_keep hb_w2 (cell_drew_keep m6); have l2 := cell_below_keep hb_w2 (cell_drew_keep m7); have l3 := cell_below_keep hb_w2 (cell_drew_keep m5); have r1 := cell_below_keep hb_w2 (cell_drew_keep m1); have r2 := cell_below_keep hb_w2 (cell_drew_keep m2); have r3 := frozen_below_kE hb_w2 (cell_drew_keep m1) m3; have r4 := frozen_below_kE hb_w2 (cell_drew_keep m2) m4))
      have hB9 : Below w.heap.size w w2 := HB.out.trans (((below_drew (Below.refl _ _)).trans hb_w2).mono hsU)
      go_wp2_with fail
      refine bodyPost_ret (v := .tuple #[.agg #[.int .i64 X, .int .i64 Y], .bool Z]) (by simp [results, Tryz.results45, go_sem, r1, r2]) rfl ⟨X, Y, rfl, fun _ => ⟨rfl, rfl⟩, (hB9.setCell (Nat.le_refl _) _).setCell (Nat.le_refl _) _⟩
set_option maxHeartbeats 8000000 in
set_option maxRecDepth 100000 in
theorem iSum_at (N : Nat) (fA fB : Rn → Int) (fP : Rn → Bool) (p : Option Addr) (c m : Nat) (rs : List Rn) (w : World) (h : RunsE w p rs) (hw : nWhole (N : Int) rs = true) (hm : rs.length = m)
    (c2 : ∀ (k : Nat) (r : Rn), rs[k]? = some r → ∀ w, RunsE w p rs → Hid (Calls Tryz.prog 25 #[.int .i64 N, .slice p m c, .int .i64 k] w fun e w' => e = .returned (.tuple #[.agg #[.int .i64 (fA r), .int .i64 (fB r)], .bool (fP r)]) ∧ Below w.heap.size w w')) :
    Calls Tryz.prog 13 #[.int .i64 N, .slice p m c] w fun e w' => e = .returned (sumA (sumS fA fB fP rs (0, 1))) ∧ Below w.heap.size w w' := by
  have hn := (whole_iff.1 hw).1
  have hl : m ≤ 12 := by rw [← hm]; exact (nOk_true hn).2.2.1
  have c1 := fun w h => Lib.hid (by have := iWhole N p c rs true w h (by omega) hw; rw [hm] at this; exact this)
  have c9 := fun (k : Nat) (r : Rn) (hr : rs[k]? = some r) w h => Lib.hid (iSquare N k p c m rs r _ _ _ w h hm hr (c2 k r hr))
  have H := Lib.hid (And.intro h hm)
  obtain ⟨O, hO⟩ : ∃ O, sumS fA fB fP rs (0, 1) = O := ⟨_, rfl⟩
  have HO := Lib.hid hO
  rw [hO]
  clear h hw hn hm hO c2
  go_enter Tryz.func13, Tryz.ntmps13
  go_upto_region 4 with ((go_at_call 39; (with_reducible refine ((c1 _ ?_).out).mono ?_); (focus ((exact H.out.1.runs.below (by repeat (first | assumption | exact Below.refl _ _ | (refine below_chain ?_ (by assumption) (by first | omega | (simp <;> omega) | simp)) | (refine Below.alloc ?_ (by first | omega | (simp <;> omega) | simp) _) | (apply below_drewN) | (apply below_drew) | (refine Below.setCell ?_ (by first | omega | (simp <;> omega) | simp) _)))); done)); rintro e wa ⟨rfl, hb_wa⟩; have hs_wa := hb_wa.size; (try simp at hs_wa)))
  have hR := (Cell2.new w 0 0 36).below hb_wa
  have hB : Below w.heap.size w wa := (by repeat (first | assumption | exact Below.refl _ _ | (refine below_chain ?_ (by assumption) (by first | omega | (simp <;> omega) | simp)) | (refine Below.alloc ?_ (by first | omega | (simp <;> omega) | simp) _) | (apply below_drewN) | (apply below_drew) | (refine Below.setCell ?_ (by first | omega | (simp <;> omega) | simp) _)))
  have hal : Below wa.heap.size wa (wa.alloc (.cells #[.int .i64 0, .int .i64 1] 36)) := (Below.refl _ _).alloc (Nat.le_refl _) _
  have hS := Cell2.new wa 0 1 36
  have hR := hR.below hal
  have hB := hB.trans (hal.mono hB.size)
  have hRS : w.heap.size < wa.heap.size := by omega
  obtain ⟨S, hSe⟩ : ∃ S, S = wa.heap.size := ⟨_, rfl⟩
  have HI := Lib.hid (And.intro hR (And.intro hS hB))
  rw [← hSe] at hRS HI ⊢
  clear hb_wa hs_wa hR hB hal hS hSe c1
  go_wp2_with fail
  go_loopw [18] (fun i wr => ∃ (k : Nat) (s : Int × Int), k ≤ m ∧ i = .int .i64 k ∧ sumS fA fB fP (rs.drop k) s = O ∧ Cell2 wr w.heap.size 0 0 ∧ Cell2 wr S s.1 s.2 ∧ Below w.heap.size w wr) (fun i _ => m - (intOf i).toNat)
  case atStart => exact ⟨0, (0, 1), Nat.zero_le _, rfl, HO.out, HI.out.1, HI.out.2.1, HI.out.2.2⟩
  case round =>
    clear HI
    rename World => wr
    obtain ⟨k, ⟨x, y⟩, hk, rfl, hs, hR, hS, hb⟩ := hrel
    have hbs := hb.size
    have hSl := hS.lt
    have HB := Lib.hid (And.intro hR (And.intro hS hb))
    by_cases hlt : k < m
    · have hlt' : (k : Int) < (m : Int) := by omega
      obtain ⟨r, hr⟩ : ∃ r, rs[k]? = some r := ⟨_, List.getElem?_eq_getElem (by rw [H.out.2]; exact hlt)⟩
      have c2k := fun w h => Lib.hid (c9 k r hr w h).out
      rw [sum_step hr] at hs
      obtain ⟨a, ha⟩ : ∃ a, fA r = a := ⟨_, rfl⟩
      obtain ⟨b, hb'⟩ : ∃ b, fB r = b := ⟨_, rfl⟩
      obtain ⟨P, hP⟩ : ∃ b, fP r = b := ⟨_, rfl⟩
      rw [ha, hb', hP] at c2k
      obtain ⟨PQ, hPQ⟩ : ∃ z, (P && sqK a b r.g) = z := ⟨_, rfl⟩
      rw [hPQ] at c2k
      have hO1 : stO fA fB fP (x, y) r = (PQ && Quo.gOk (Quo.both x y (sqT a b r.g) (sqL a b r.g)) (x * sqL a b r.g + sqT a b r.g * y) (y * sqL a b r.g)) := by
        show (fP r && sqK (fA r) (fB r) r.g && Quo.gOk (Quo.both x y (sqT (fA r) (fB r) r.g) (sqL (fA r) (fB r) r.g)) (x * sqL (fA r) (fB r) r.g + sqT (fA r) (fB r) r.g * y) (y * sqL (fA r) (fB r) r.g)) = _
        rw [ha, hb', hP, hPQ]
      have hV1 : stV fA fB (x, y) r = (Quo.gT (Quo.both x y (sqT a b r.g) (sqL a b r.g)) (x * sqL a b r.g + sqT a b r.g * y) (y * sqL a b r.g), Quo.gL (Quo.both x y (sqT a b r.g) (sqL a b r.g)) (x * sqL a b r.g + sqT a b r.g * y) (y * sqL a b r.g)) := by
        show (Quo.gT (Quo.both x y (sqT (fA r) (fB r) r.g) (sqL (fA r) (fB r) r.g)) (x * sqL (fA r) (fB r) r.g + sqT (fA r) (fB r) r.g * y) (y * sqL (fA r) (fB r) r.g), Quo.gL (Quo.both x y (sqT (fA r) (fB r) r.g) (sqL (fA r) (fB r) r.g)) (x * sqL (fA r) (fB r) r.g + sqT (fA r) (fB r) r.g * y) (y * sqL (fA r) (fB r) r.g)) = _
        rw [ha, hb']
      rw [hO1, hV1] at hs
      have c4 := fun w => Lib.hid (iAdd_any x y (sqT a b r.g) (sqL a b r.g) w)
      obtain ⟨a3, ha3⟩ : ∃ z, Quo.gT (Quo.both x y (sqT a b r.g) (sqL a b r.g)) (x * sqL a b r.g + sqT a b r.g * y) (y * sqL a b r.g) = z := ⟨_, rfl⟩
      obtain ⟨b3, hb3⟩ : ∃ z, Quo.gL (Quo.both x y (sqT a b r.g) (sqL a b r.g)) (x * sqL a b r.g + sqT a b r.g * y) (y * sqL a b r.g) = z := ⟨_, rfl⟩
      obtain ⟨R, hRr⟩ : ∃ z, Quo.gOk (Quo.both x y (sqT a b r.g) (sqL a b r.g)) (x * sqL a b r.g + sqT a b r.g * y) (y * sqL a b r.g) = z := ⟨_, rfl⟩
      rw [ha3, hb3, hRr] at c4 hs
      obtain ⟨a2, ha2⟩ : ∃ x, sqT a b r.g = x := ⟨_, rfl⟩
      obtain ⟨b2, hb2⟩ : ∃ x, sqL a b r.g = x := ⟨_, rfl⟩
      rw [ha2, hb2] at c4 c2k
      have HS := Lib.hid hs
      clear hs hO1 hV1 ha hb' hP ha2 hb2 ha3 hb3 hRr hR hS hb hr hPQ c9
      go_upto_region 8 with ((go_at_call 45; (with_reducible refine ((c2k _ ?_).out).mono ?_); (focus ((exact H.out.1.below HB.out.2.2); done)); rintro e wx ⟨u, v, rfl, huv, hb_wx⟩; have hs_wx := hb_wx.size; (try simp at hs_wx)))
      have hal : Below wx.heap.size wx (wx.alloc (.cells #[.int .i64 u, .int .i64 v] 36)) := (Below.refl _ _).alloc (Nat.le_refl _) _
      have hX := Cell2.new wx u v 36
      have hBx := hb_wx.trans (hal.mono hs_wx)
      obtain ⟨V, hV⟩ : ∃ V, V = wx.alloc (.cells #[.int .i64 u, .int .i64 v] 36) := ⟨_, rfl⟩
      obtain ⟨X, hXe⟩ : ∃ X, X = wx.heap.size := ⟨_, rfl⟩
      rw [← hV] at hX hBx ⊢
      rw [← hXe] at hX ⊢
      have HV := Lib.hid (And.intro (HB.out.1.below hBx) (And.intro (HB.out.2.1.below hBx) (HB.out.2.2.trans (hBx.mono hbs))))
      have hsV := HV.out.2.2.size
      have hXs : wr.heap.size ≤ X := by omega
      have HX := Lib.hid hX
      clear hal hBx hV hXe hb_wx hs_wx hX HB c2k
      have hXl : X < V.heap.size := HX.out.lt
      have hSw : ¬ w.heap.size = S := by omega
      have hSw' : ¬ S = w.heap.size := by omega
      cases PQ
      · have hO : O = none := HS.out.symm
        obtain ⟨q1, q2, q3, q4⟩ := HV.out.1
        go_wp2_with fail
        refine bodyPost_ret (v := .tuple #[.agg #[.int .i64 0, .int .i64 0], .bool false]) (by simp [results, Tryz.results13, go_sem, q1, q2]) rfl ⟨by first | rfl | (rw [hO]; rfl), (HV.out.2.2.setCell (Nat.le_refl _) _).setCell (Nat.le_refl _) _⟩
      · obtain ⟨rfl, rfl⟩ := huv rfl
        obtain ⟨s1, s2, s3, s4⟩ := HV.out.2.1
        obtain ⟨x1, x2, x3, x4⟩ := HX.out
        clear huv
        go_upto_region 11 with ((go_at_call 16; (with_reducible refine ((c4 _).out).mono ?_); rintro e wz ⟨rfl, hb_wz⟩; have hs_wz := hb_wz.size; (try simp at hs_wz)); obtain ⟨p1, p2, p3, p4⟩ := HV.out.2.1.below hb_wz)
        have HU := Lib.hid (And.intro ((((HV.out.1.below hb_wz).other hSw 0 (.int .i64 a3)).other hSw 1 (.int .i64 b3))) (And.intro ((HV.out.2.1.below hb_wz).set a3 b3) (((HV.out.2.2.trans (hb_wz.mono hsV)).setCell (p := ⟨S, 0, none⟩) (Nat.le_of_lt hRS) (.int .i64 a3)).setCell (p := ⟨S, 1, none⟩) (Nat.le_of_lt hRS) (.int .i64 b3))))
        obtain ⟨U, hU⟩ : ∃ U, U = (wz.setCell ⟨S, 0, none⟩ (.int .i64 a3)).setCell ⟨S, 1, none⟩ (.int .i64 b3) := ⟨_, rfl⟩
        rw [← hU] at HU ⊢
        clear s1 s2 s3 s4 x1 x2 x3 x4 p1 p2 p3 p4 hb_wz hs_wz hU HV HX c4
        cases R
        · have hO : O = none := HS.out.symm
          obtain ⟨q1, q2, q3, q4⟩ := HU.out.1
          go_wp2_with fail
          refine bodyPost_ret (v := .tuple #[.agg #[.int .i64 0, .int .i64 0], .bool false]) (by simp [results, Tryz.results13, go_sem, q1, q2]) rfl ⟨by first | rfl | (rw [hO]; rfl), (HU.out.2.2.setCell (Nat.le_refl _) _).setCell (Nat.le_refl _) _⟩
        · go_wp2_with fail
          go_roundw
          case rel => exact ⟨k + 1, (a3, b3), by omega, by go_num, HS.out, HU.out.1, HU.out.2.1, HU.out.2.2⟩
          case measure => simp [intOf]; omega
    · have e : k = m := by omega
      subst e
      rw [List.drop_eq_nil_of_le (by rw [H.out.2]; exact Nat.le_refl _)] at hs
      have hO : O = some (x, y) := hs.symm
      obtain ⟨q1, q2, q3, q4⟩ := hR
      obtain ⟨p1, p2, p3, p4⟩ := hS
      have hSw : ¬ w.heap.size = S := by omega
      have hSw' : ¬ S = w.heap.size := by omega
      clear hs hb
      go_wp2_with fail
      refine bodyPost_ret (v := .tuple #[.agg #[.int .i64 x, .int .i64 y], .bool true]) (by simp [results, Tryz.results13, go_sem, q1, q2]) rfl ⟨by first | rfl | (rw [hO]; rfl), (HB.out.2.2.setCell (Nat.le_refl _) _).setCell (Nat.le_refl _) _⟩
theorem iSum_yes (N n : Nat) (p : Option Addr) (c m : Nat) (rs : List Rn) (w : World) (h : RunsE w p rs) (ha : adjOk (N : Int) rs = true) (hm : rs.length = m) (hNn : N = n + 1) :
    Calls Tryz.prog 13 #[.int .i64 N, .slice p m c] w fun e w' => e = .returned (sumA (smV n rs)) ∧ Below w.heap.size w w' :=
  iSum_at N _ _ _ p c m rs w h (adj_true ha hNn).1 hm (fun k r hr w h => Lib.hid (iRest_yes N n k p c m rs r w h ha hm hNn hr))
set_option maxHeartbeats 2000000 in
theorem iSum_no (n : Int) (p : Option Addr) (c m : Nat) (rs : List Rn) (w : World) (h : RunsE w p rs) (hm : rs.length = m) (hl : m ≤ 4000000000000000000) (ha : adjOk n rs = false) :
    Calls Tryz.prog 13 #[.int .i64 n, .slice p m c] w fun e w' => e = .returned (.tuple #[.agg #[.int .i64 0, .int .i64 0], .bool false]) ∧ Below w.heap.size w w' := by
  cases hw : nWhole n rs
  · have c1 := fun w h => Lib.hid (by have := iWhole n p c rs false w h (by omega) hw; rw [hm] at this; exact this)
    have H := Lib.hid h.runs
    clear h hm ha hw
    go_enter Tryz.func13, Tryz.ntmps13
    go_upto_region 2 with ((go_at_call 39; (with_reducible refine ((c1 _ ?_).out).mono ?_); (focus ((exact H.out.below (by repeat (first | assumption | exact Below.refl _ _ | (refine below_chain ?_ (by assumption) (by first | omega | (simp <;> omega) | simp)) | (refine Below.alloc ?_ (by first | omega | (simp <;> omega) | simp) _) | (apply below_drewN) | (apply below_drew) | (refine Below.setCell ?_ (by first | omega | (simp <;> omega) | simp) _)))); done)); rintro e wa ⟨rfl, hb_wa⟩; have hs_wa := hb_wa.size; (try simp at hs_wa)))
    obtain ⟨q1, q2, q3, q4⟩ := res_cell hb_wa
    have hBa : Below w.heap.size w wa := (by repeat (first | assumption | exact Below.refl _ _ | (refine below_chain ?_ (by assumption) (by first | omega | (simp <;> omega) | simp)) | (refine Below.alloc ?_ (by first | omega | (simp <;> omega) | simp) _) | (apply below_drewN) | (apply below_drew) | (refine Below.setCell ?_ (by first | omega | (simp <;> omega) | simp) _)))
    go_wp2_with fail
    refine bodyPost_ret (v := .tuple #[.agg #[.int .i64 0, .int .i64 0], .bool false]) (by simp [results, Tryz.results13, go_sem, q1, q2]) rfl ⟨rfl, (hBa.setCell (Nat.le_refl _) _).setCell (Nat.le_refl _) _⟩
  · obtain ⟨N, M, rfl, hNM⟩ := whole_nat hw
    have h1 := iSum_at N (fun _ => 0) (fun _ => 0) (fun _ => false) p c m rs w h hw hm (fun k r hr w h => Lib.hid (iRest_no N k p c m rs w h hm hl (fun hc => by rw [ha] at hc; exact absurd hc.1 (by simp))))
    have h2 : sumS (fun _ => 0) (fun _ => 0) (fun _ => false) rs (0, 1) = none := by
      cases rs with
      | nil => exact absurd rfl (whole_runs hw)
      | cons r l => rfl
    rw [h2] at h1
    exact h1
end Go.Proofs.YtoaomjchaihkaaaGreatDoor
